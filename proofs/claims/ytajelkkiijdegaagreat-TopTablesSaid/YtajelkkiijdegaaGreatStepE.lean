/-
  A helper of ours: no claim of its own. Layer 9 (step): the other sign, and parts, by the code.
-/
import Derived.Test.YtajelkkiijdegaaGreatStepB
import Derived.Test.YtajelkkiijdegaaGreatBagB
set_option linter.unusedVariables false
set_option linter.unusedSimpArgs false
set_option linter.unusedSectionVars false
set_option maxHeartbeats 64000000
set_option maxRecDepth 100000
namespace Go.Proofs.YtajelkkiijdegaaGreat
open Go.RowKit
attribute [local go_sem] GW.cell GW.frozen In.eq_true In.le_true In.ne In.ne' In.ne_add In.ne_add' In.lt_add Upto.le_true Upto.le_add Upto.lt_add
theorem jv_small{l:List Jp}(hb:∀j∈l, -1048576≤j.2∧j.2≤1048576)(hn:l.length≤4096)(k:Nat)(t:Int): -4294967296≤jv (l.take k) t∧jv (l.take k) t≤4294967296:=by
 have h1:=jv_bound (K:=1048576) (by omega) (fun j hj=>hb j (List.mem_of_mem_take hj)) t (f:=l.take k)
 have h2:(l.take k).length≤4096:=by rw[List.length_take];omega
 omega
theorem js_small{l:List Jp}(hb:∀j∈l, -1048576≤j.2∧j.2≤1048576)(hn:l.length≤4096)(k:Nat): -4294967296≤js (l.take k)∧js (l.take k)≤4294967296:=by
 have h1:=js_bound (K:=1048576) (by omega) (fun j hj=>hb j (List.mem_of_mem_take hj)) (f:=l.take k)
 have h2:(l.take k).length≤4096:=by rw[List.length_take];omega
 omega
theorem jv_next{l:List Jp}{k:Nat}{x:Jp}(hx:l[k]? = some x)(t:Int):jv (l.take (k+1)) t=if x.1≤t then jv (l.take k) t+x.2 else jv (l.take k) t:=by
 rw[take_snoc hx,jv_snoc];split<;>omega
theorem stepAt_c(l:List Jp)(t:Int)(v:Value)(w:World)(h:Jw w [] v l):Calls Tryz.prog 179 #[v, .int .i64 t] w fun e w'=>e= .returned (.int .i64 (atV l t))∧Ext w w':=by
 have hm:=hide (stepMay_c l v w h)
 obtain⟨A,cap,rfl,hl,hmc,hat⟩:=jw_form h
 unfold maxLen at hmc
 replace hat:=hide hat
 unfold atV
 clear h
 cases hb:mayJ l
 ·rw[hb] at hm
  rw[if_neg (by decide)]
  replace hb:=hide hb
  clear hat
  go_enter Tryz.func179,Tryz.ntmps179
  go_wp2_with (go_at_call 106;(with_reducible refine seq_gw hm.out ?_);intro g)
  go_returns
  exact⟨rfl,g.grown⟩
 ·rw[hb] at hm
  rw[if_pos rfl]
  have hnet:=hide (mayJ_net hb)
  have hn:=hide (show l.length≤4096 by have:=mayJ_len hb;omega)
  have hnI:(l.length:Int)≤4096:=by have:=hn.out;omega
  obtain⟨R,hR⟩:∃R,R=jv l t:=⟨_,rfl⟩
  rw[←hR]
  replace hR:=hide hR
  replace hb:=hide hb
  go_enter Tryz.func179,Tryz.ntmps179
  go_wp2_with (go_at_call 106;(with_reducible refine seq_gw hm.out ?_);intro g)
  go_loopg [5,13] l.length (fun gh s i wr=>∃(k:Nat) (z:Int),i= .int .i64 k∧s= .int .i64 z∧k+gh=l.length∧Hid (z=jv (l.take k) t)∧Ext w wr)
  case atStart=>exact⟨0,0,rfl,rfl,by omega,rfl,g.grown⟩
  case round =>
   obtain⟨k,z,rfl,rfl,hk,hz,hX⟩:=hrel
   by_cases hlt:k<l.length
   ·obtain⟨x,hx⟩:∃x,l[k]? = some x:=⟨_,List.getElem?_eq_getElem hlt⟩
    obtain⟨b,o,rfl, -,hbl,c0,c1⟩:=hat.out k x hx
    have k0:=jcell_later hX c0
    have k1:=jcell_later hX c1
    have hbr:b<wr.heap.size:=block_lt_of_cell k0
    obtain⟨z1,z2⟩:=(show -4294967296≤z∧z≤4294967296 by have:=hz.out;rw[this];exact jv_small hnet.out hn.out k t)
    obtain⟨n1,n2⟩:=hnet.out x (List.mem_of_getElem? hx)
    have hnx:=jv_next hx t
    rw[←hz.out] at hnx
    clear c0 c1 hx hz
    obtain⟨xp,xn⟩:=x
    simp only at n1 n2 hnx k0 k1
    by_cases hle:xp≤t
    ·rw[if_pos hle] at hnx
     replace hnx:=hide hnx
     go_wp2_with fail
     go_roundg (l.length-(k+1))
     case measure=>omega
     case rel=>exact⟨k+1,z+xn,by go_num,by go_num,by omega,hnx.out.symm,hX.alloc _⟩
    ·have d:decide (xp≤t)=false:=by rw[decide_eq_false_iff_not];exact hle
     rw[if_neg hle] at hnx
     replace hnx:=hide hnx
     clear hle
     go_wp2_with fail
     go_roundg (l.length-(k+1))
     case measure=>omega
     case rel=>exact⟨k+1,z,by go_num,rfl,by omega,hnx.out.symm,hX.alloc _⟩
   ·have hk':k=l.length:=by omega
    have hge:(l.length:Int)≤k:=by omega
    have hR2:Hid (R=z):=by show _=_;have:=hz.out;rw[hk',List.take_length] at this;rw[hR.out];exact this.symm
    replace hk':=hide hk'
    clear hz hR
    go_wp2_with fail
    go_returns
    exact⟨by rw[hR2.out];rfl,hX⟩
theorem atV_of{l:List Jp}(h:mayJ l=true)(t:Int):atV l t=jv l t:=by unfold atV;rw[if_pos h]
theorem js_here{l:List Jp}(h:mayJ l=true){k:Nat}{x:Jp}(hx:l[k]? = some x):js (l.take (k+1))=jv l x.1:=by
 rw[take_snoc hx]
 have e:l=l.take k++x::l.drop (k+1):=by rw[←jdrop_cons hx,List.take_append_drop]
 have:=js_at (f1:=l.take k) (f2:=l.drop (k+1)) (j:=x) (by rw[←e];exact (mayJ_iff.1 h).2.2)
 rw[←e] at this
 exact this
theorem js_next{l:List Jp}{k:Nat}{x:Jp}(hx:l[k]? = some x):js (l.take (k+1))=js (l.take k)+x.2:=by rw[take_snoc hx,js_snoc]
theorem le_next{l:List Jp}{k:Nat}{x:Jp}(m:Int)(hx:l[k]? = some x):leF l m (l.take (k+1))=min (leF l m (l.take k)) (jv l x.1):=by rw[take_snoc hx,leF_snoc]
theorem stepLeast_c(l:List Jp)(v:Value)(w:World)(h:Jw w [] v l):Calls Tryz.prog 125 #[v] w fun e w'=>e= .returned (.int .i64 (leV l))∧Ext w w':=by
 have hm:=hide (stepMay_c l v w h)
 have ha:=hide (fun w' (hX:Ext w w')=>stepAt_c l (-1) v w' (Sl.ext h hX))
 obtain⟨A,cap,rfl,hl,hmc,hat⟩:=jw_form h
 unfold maxLen at hmc
 replace hat:=hide hat
 unfold leV
 clear h
 cases hb:mayJ l
 ·rw[hb] at hm
  rw[if_neg (by decide)]
  replace hb:=hide hb
  clear hat ha
  go_enter Tryz.func125,Tryz.ntmps125
  go_wp2_with (go_at_call 106;(with_reducible refine seq_gw hm.out ?_);intro g)
  go_returns
  exact⟨rfl,g.grown⟩
 ·rw[hb] at hm
  rw[if_pos rfl]
  rw[atV_of hb] at ha
  have hnet:=hide (mayJ_net hb)
  have hn:=hide (show l.length≤4096 by have:=mayJ_len hb;omega)
  have hnI:(l.length:Int)≤4096:=by have:=hn.out;omega
  obtain⟨m0,hm0⟩:∃m0,m0=jv l (-1):=⟨_,rfl⟩
  rw[←hm0] at ha ⊢
  obtain⟨R,hR⟩:∃R,R=leF l m0 l:=⟨_,rfl⟩
  rw[←hR]
  replace hR:=hide hR
  replace hb:=hide hb
  replace hm0:=hide hm0
  go_enter Tryz.func125,Tryz.ntmps125
  go_wp2_with (first|(go_at_call 106;(with_reducible refine seq_gw hm.out ?_);intro g)|(go_at_call 179;(with_reducible refine seq_gw' (ha.out _ g.grown) ?_);intro g2))
  go_loopg [3,4,14] l.length (fun gh m s i wr=>∃(k:Nat) (y z:Int),i= .int .i64 k∧s= .int .i64 z∧m= .int .i64 y∧k+gh=l.length∧Hid (z=js (l.take k))∧Hid (y=leF l m0 (l.take k))∧Ext w wr)
  case atStart=>exact⟨0,m0,0,rfl,rfl,rfl,by omega,rfl,rfl,g2.grown⟩
  case round =>
   clear ha
   obtain⟨k,y,z,rfl,rfl,rfl,hk,hz,hy,hX⟩:=hrel
   by_cases hlt:k<l.length
   ·obtain⟨x,hx⟩:∃x,l[k]? = some x:=⟨_,List.getElem?_eq_getElem hlt⟩
    obtain⟨b,o,rfl, -,hbl,c0,c1⟩:=hat.out k x hx
    have k0:=jcell_later hX c0
    have k1:=jcell_later hX c1
    have hbr:b<wr.heap.size:=block_lt_of_cell k0
    obtain⟨z1,z2⟩:=(show -4294967296≤z∧z≤4294967296 by have:=hz.out;rw[this];exact js_small hnet.out hn.out k)
    obtain⟨n1,n2⟩:=hnet.out x (List.mem_of_getElem? hx)
    have hnx:=js_next hx
    rw[←hz.out] at hnx
    have hny:=le_next m0 hx
    rw[←hy.out,←js_here hb.out hx,hnx] at hny
    clear c0 c1 hx hz hy
    obtain⟨xp,xn⟩:=x
    simp only at n1 n2 hnx hny k0 k1
    replace hnx:=hide hnx
    by_cases hle:y≤z+xn
    ·rw[Int.min_eq_left hle] at hny
     replace hny:=hide hny
     have d1:decide (z+xn<y)=false:=by rw[decide_eq_false_iff_not];omega
     go_wp2_with fail
     go_roundg (l.length-(k+1))
     case measure=>omega
     case rel=>exact⟨k+1,y,z+xn,by go_num,by go_num,by simp[hle],by omega,hnx.out.symm,hny.out.symm,hX.alloc _⟩
    ·have hle':z+xn<y:=by omega
     rw[Int.min_eq_right (by omega)] at hny
     replace hny:=hide hny
     clear hle
     go_wp2_with fail
     go_roundg (l.length-(k+1))
     case measure=>omega
     case rel=>exact⟨k+1,z+xn,z+xn,by go_num,by go_num,by simp[hle'],by omega,hnx.out.symm,hny.out.symm,hX.alloc _⟩
   ·have hk':k=l.length:=by omega
    have hge:(l.length:Int)≤k:=by omega
    have hR2:Hid (R=y):=by show _=_;have:=hy.out;rw[hk',List.take_length] at this;rw[hR.out];exact this.symm
    replace hk':=hide hk'
    clear hz hR hy
    go_wp2_with fail
    go_returns
    exact⟨by rw[hR2.out];rfl,hX⟩
theorem bagLate_c(kf:List Vl→List UInt8)(S:List Nat)(B mb n:Nat)(mk:Int)(T:List Fe)(q:List Vl)(j:Jp)(v:Value)(w:World)(h:Bg kf w S B mb n mk T)(hq:Rw w [] v q):Calls Tryz.prog 64 #[.pointer (some ⟨B,0,none⟩),em v j] w fun e w'=>e= .returned (.bool (decide (j.1<mk)))∧Ext w w':=by
 obtain⟨ja,jn⟩:=j
 obtain⟨A,cap,rfl⟩:=rw_val hq
 have c0:=h.1.cell 0 rfl
 have hlt:=h.1.lt
 haveI:In B w:=⟨hlt⟩
 clear h hq
 go_enter Tryz.func64,Tryz.ntmps64
 go_wp2_with fail
 refine wp_region_gw (by kernel_rfl) (by kernel_rfl) ?_
 repeat (go_big_quiet_step (fail))
 refine wpQuiet_nil ?_
 intro g
 go_wp2_with fail
 go_returns
 exact⟨rfl,((Ext.refl w).alloc _).trans g.grown⟩
def belT(T:List Fe):Bool:=T.any fun p=>decide (leV p.2.2.2<0)
theorem areBelow_c(kf:List Vl→List UInt8)(S:List Nat)(mb n:Nat)(T:List Fe)(w:World)(h:Fm kf w S mb n T):Calls Tryz.prog 67 #[.map (some mb)] w fun e w'=>e= .returned (.bool (belT T))∧Ext w w':=by
 have hM:=hide h.1
 have hT:=hide h.2
 clear h
 obtain⟨R,hR⟩:∃R,R=belT T:=⟨_,rfl⟩
 rw[←hR]
 replace hR:=hide hR
 go_enter Tryz.func67,Tryz.ntmps67
 go_wp2_with (at_range;refine wpl_range rfl (.tmp 5) rfl rfl fnKey Tryz.underlying116 hM.out ?_;intro w1 hr1 hg1 hs1)
 go_frame
 have hX1:=hide (ext_grown (Ext.refl w) hg1 (by simp))
 obtain⟨r,hrr⟩:∃r,r=w.heap.size:=⟨_,rfl⟩
 rw[←hrr] at hr1 ⊢
 have hrle:w.heap.size≤r:=by omega
 replace hr1:=hide hr1
 clear hg1 hs1
 replace hrr:=hide hrr
 go_loopg [4] T.length (fun gh z wr=>∃(L:List Fe),L.length=gh∧Hid (R=belT L)∧Hid (Rgv wr Tryz.prog 9 (fent kf) mb r n T L)∧Hid (Ext w wr))
 case atStart=>exact⟨T,rfl,hR,hr1,hX1⟩
 case round =>
  clear hr1 hX1
  obtain⟨L,hL,hy,hRv,hX⟩:=hrel
  go_wp2_with (at_next;refine wpl_next rfl (.tmp 6) rfl rfl fnKey hRv.out ?_ ?_)
  ·intro hl0
   subst hl0
   clear hRv hT
   go_wp2_with fail
   go_returns
   exact⟨by rw[hy.out];rfl,hX.out⟩
  ·intro key vr vj q f L' w1 hkey hq hp hR1 hg1 hs1 hen
   have hE:(fent kf (vr,vj,q,f)).2= .agg #[vr,vj]:=rfl
   rw[hE] at hen ⊢
   obtain⟨hrw,hjw⟩:=hT.out _ hq
   simp only at hrw hjw
   have hX1:=hide (ext_grown hX.out hg1 (fun z hz=>by obtain rfl:=Option.some.inj hz;exact hrle))
   have hlen:L'.length+1=L.length:=by rw[hp.length_eq];rfl
   have hbel:Hid (R=(decide (leV f<0) || belT L')):=by
    show _=_
    rw[hy.out]
    unfold belT
    rw[any_permM hp,List.any_cons]
   obtain⟨VA,vcap,rfl⟩:=(show ∃A cap,vr= .slice A q.length cap by obtain⟨A,cap,e,_⟩:=hrw;exact⟨A,cap,e⟩)
   obtain⟨JA,jcap,rfl,hjl,hjm, -⟩:=jw_form hjw
   have hlv:=hide (fun w' (hx:Ext w w')=>stepLeast_c f (.slice JA f.length jcap) w' ((Sl.less hjw (S':=[]) (by simp)).ext hx))
   obtain⟨z,hz⟩:∃z,z=leV f:=⟨_,rfl⟩
   rw[←hz] at hlv hbel
   have hXa:=hide (hX1.out.alloc (.cells #[.slice VA q.length vcap, .slice JA f.length jcap] 124))
   have hR2:=hide (hR1.kept (World.grownBy_alloc w1 (.cells #[.slice VA q.length vcap, .slice JA f.length jcap] 124) none) (by simp) (by simp))
   replace hz:=hide hz
   clear hkey hq hp hR1 hg1 hs1 hrw hjw hRv hT hE hy
   by_cases hneg:z<0
   ·have d1:decide (z<0)=true:=decide_eq_true hneg
    rw[d1,Bool.true_or] at hbel
    go_wp2_with (go_at_call 125;(with_reducible refine seq_gw (hlv.out _ hXa.out) ?_);intro g)
    go_returns
    exact⟨by rw[hbel.out];rfl,hXa.out.trans g.grown⟩
   ·have d1:decide (z<0)=false:=decide_eq_false hneg
    rw[d1,Bool.false_or] at hbel
    go_wp2_with (go_at_call 125;(with_reducible refine seq_gw (hlv.out _ hXa.out) ?_);intro g)
    go_roundg L'.length
    case measure=>omega
    case rel=>exact⟨L',rfl,hbel,hR2.out.kept (ext_by g.grown) (by simp) (by simp),hXa.out.trans g.grown⟩
def updT(kf:List Vl→List UInt8)(T D:List Fe):List Fe:=(T.filter fun q=> !D.any fun p=>(fent kf q).1.sameKey (fent kf p).1)++D.filter fun p=> !p.2.2.2.isEmpty
section
variable {kf:List Vl→List UInt8} {T D:List Fe} {p:Fe}
theorem upd_nil:updT kf T []=T:=by
 unfold updT
 simp
theorem upd_del(hne:∀q∈D,(fent kf q).1.sameKey (fent kf p).1=false):delM (fent kf) (updT kf T D) (fent kf p).1=(T.filter fun q=> !(D++[p]).any fun p=>(fent kf q).1.sameKey (fent kf p).1)++D.filter fun p=> !p.2.2.2.isEmpty:=by
 unfold delM updT
 rw[List.filter_append,List.filter_filter]
 congr 1
 ·refine List.filter_congr fun q _=>?_
  rw[List.any_append]
  simp only[List.any_cons,List.any_nil,Bool.or_false,Bool.not_or]
  rw[Bool.and_comm]
 ·rw[List.filter_eq_self]
  intro q hq
  rw[hne q (List.mem_filter.1 hq).1]
  rfl
theorem upd_none(hne:∀q∈D,(fent kf q).1.sameKey (fent kf p).1=false)(h0:p.2.2.2.isEmpty=true):delM (fent kf) (updT kf T D) (fent kf p).1=updT kf T (D++[p]):=by
 rw[upd_del hne]
 unfold updT
 rw[List.filter_append,List.filter_cons,h0]
 simp
theorem upd_some(hne:∀q∈D,(fent kf q).1.sameKey (fent kf p).1=false)(h0:p.2.2.2.isEmpty=false):(putM (fent kf) (updT kf T D) p).Perm (updT kf T (D++[p])):=by
 unfold putM
 rw[upd_del hne]
 have e:updT kf T (D++[p])=((T.filter fun q=> !(D++[p]).any fun p=>(fent kf q).1.sameKey (fent kf p).1)++D.filter fun p=> !p.2.2.2.isEmpty)++[p]:=by
  unfold updT
  rw[List.filter_append (l₁:=D),List.append_assoc]
  congr 2
  rw[List.filter_cons,h0]
  simp
 rw[e]
 exact (List.perm_append_singleton p _).symm
end
theorem bagPut_c(kf:List Vl→List UInt8)(S:List Nat)(B mb n ob n2:Nat)(mk:Int)(T U:List Fe)(hn:n+U.length<1000000000)(hmo:mb≠ob)(w:World)(h:Bg kf w S B mb n mk T)(hB:B≠mb)(hU:Fm kf w S ob n2 U):Calls Tryz.prog 59 #[.pointer (some ⟨B,0,none⟩), .map (some ob)] w fun e w'=>e= .returned (.tuple #[])∧Mv w' Tryz.prog 9 (fent kf) mb (n+U.length) (updT kf T U)∧Fr [mb] w w':=by
 have c0:=h.1.cell 1 rfl
 have hO:=hide h.1
 have hM:=hide h.2.1
 have hMU:=hide hU.1
 have hTU:=hide hU.2
 have hml:=h.2.1.lt
 have hap:=hide ((hU.1.apart fnKey).1)
 clear h hU c0
 go_enter Tryz.func59,Tryz.ntmps59
 go_wp2_with (at_range;refine wpl_range rfl (.tmp 6) rfl rfl fnKey Tryz.underlying116 hMU.out ?_;intro w1 hr1 hg1 hs1)
 go_frame
 have hX1:=ext_grown (Ext.refl w) hg1 (by simp)
 obtain⟨r,hrr⟩:∃r,r=w.heap.size:=⟨_,rfl⟩
 rw[←hrr] at hr1 ⊢
 have hrle:w.heap.size≤r:=by omega
 have hM1:=hide (show Mv w1 Tryz.prog 9 (fent kf) mb (n+0) (updT kf T []) by rw[upd_nil];exact hM.out.kept (ext_by hX1) (by simp))
 have hF1:=hide (Fr.of_ext (S:=[mb]) hX1)
 replace hr1:=hide hr1
 clear hg1 hs1 hX1
 replace hrr:=hide hrr
 go_loopg [4] U.length (fun gh z wr=>∃(D L:List Fe),L.length=gh∧D.length+L.length=U.length∧Hid (U.Perm (D++L))∧Hid (Mv wr Tryz.prog 9 (fent kf) mb (n+D.length) (updT kf T D))∧Hid (Rgv wr Tryz.prog 9 (fent kf) ob r n2 U L)∧Hid (Fr [mb] w wr))
 case atStart=>exact⟨[],U,rfl,by simp,List.Perm.refl _,hM1,hr1,hF1⟩
 case round =>
  clear hr1 hM1 hF1
  obtain⟨D,L,hL,hDL,hp0,hMv,hRv,hF⟩:=hrel
  have cB:=(hO.out.fr hF.out (by simp;exact hB)).cell 1 rfl
  have cBl:=block_lt_of_cell cB
  haveI:In B wr:=⟨cBl⟩
  go_wp2_with (at_next;refine wpl_next rfl (.tmp 7) rfl rfl fnKey hRv.out ?_ ?_)
  ·intro hl0
   subst hl0
   clear hRv hTU
   go_wp2_with fail
   go_returns
   refine⟨rfl,?_,hF.out⟩
   have hDp:D.Perm U:=by have:=hp0.out;rw[List.append_nil] at this;exact this.symm
   have hm:=hMv.out
   rw[hDp.length_eq] at hm
   refine hm.perm ?_
   unfold updT
   refine List.Perm.append (List.Perm.of_eq (List.filter_congr fun q _=>?_)) (hDp.filter _)
   rw[any_permM hDp]
  ·intro key vr vj q f L' w4 hkey hq hp hR4 hg4 hs4 hen
   have hE:(fent kf (vr,vj,q,f)).2= .agg #[vr,vj]:=rfl
   rw[hE] at hen ⊢
   obtain⟨hrw,hjw⟩:=hTU.out _ hq
   simp only at hrw hjw
   have hlen:L'.length+1=L.length:=by rw[hp.length_eq];rfl
   have hF4:=hF.out.grown hg4 (fun z hz=>by obtain rfl:=Option.some.inj hz;exact .inr hrle)
   have hmr:mb≠r:=by omega
   have hM4:=hMv.out.kept hg4 (by simpa using hmr)
   have cB4:=(hO.out.fr hF4 (by simp;exact hB)).cell 1 rfl
   have cB4l:=block_lt_of_cell cB4
   haveI:In B w4:=⟨cB4l⟩
   have hro:ob≠r:=by have:=hMU.out.lt;omega
   have hpD:=hp0.out.trans ((List.Perm.refl D).append hp)
   have hne:=hide (show ∀x∈D,(fent kf x).1.sameKey (fent kf (vr,vj,q,f)).1=false from fun x hx=>by
    cases hs:(fent kf x).1.sameKey (fent kf (vr,vj,q,f)).1
    ·rfl
    ·exfalso
     have h1:=(hpD.pairwise_iff (R:=fun p q:Fe=>(fent kf p).1≠(fent kf q).1) (fun {a b} hab=>Ne.symm hab)).1 hap.out
     rw[List.pairwise_append] at h1
     exact h1.2.2 x hx _ (by simp) (WideAt.sameKey_eq hs))
   have hpn:=hide (show U.Perm ((D++[(vr,vj,q,f)])++L') by rw[List.append_assoc];exact hpD)
   obtain⟨VA,vcap,rfl⟩:=(show ∃A cap,vr= .slice A q.length cap by obtain⟨A,cap,e,_⟩:=hrw;exact⟨A,cap,e⟩)
   obtain⟨JA,jcap,rfl,hjl,hjm, -⟩:=jw_form hjw
   have hA:=World.grownBy_alloc w4 (.cells #[.slice VA q.length vcap, .slice JA f.length jcap] 124) none
   have hMa:=hide (hM4.kept hA (by simp))
   have hRa:=hide (hR4.kept hA (by simp) (by simp))
   have hFa:=hide (hF4.alloc (.cells #[.slice VA q.length vcap, .slice JA f.length jcap] 124))
   have hnb:n+D.length<maxLen:=by unfold maxLen;omega
   have hkk:=hide hkey
   clear hkey hq hp hp0 hpD hR4 hg4 hs4 hrw hjw hRv hTU hE hA hM4 hF4 hMv cB cBl hMU hM
   by_cases hf0:f.length=0
   ·have hfe:f.isEmpty=true:=by rw[List.isEmpty_iff_length_eq_zero];exact hf0
    rw[hf0] at hen hMa hRa hFa ⊢
    go_wp2_with (at_delete;refine wpl_mdel rfl (.tmp 20) (.tmp 21) rfl rfl rfl fnKey Tryz.underlying116 hMa.out hkk.out ?_;intro w5 hM5 hg5)
    first|go_frame|skip
    go_roundg L'.length
    case measure=>omega
    case rel=>exact⟨D++[(.slice VA q.length vcap, .slice JA f.length jcap,q,f)],L',rfl,by rw[List.length_append,List.length_singleton];omega,hpn,(by rw[←upd_none hne.out hfe,List.length_append];obtain⟨es,h1,h2⟩:=hM5;exact⟨es,h1.mono (by simp),h2⟩),hRa.out.kept hg5 (by simpa using Ne.symm hmo) (by simpa using Ne.symm hmr),hFa.out.grown hg5 (fun z hz=>by obtain rfl:=Option.some.inj hz;exact .inl (by simp))⟩
   ·have hfe:f.isEmpty=false:=by cases f with|nil=>exact absurd rfl hf0|cons _ _=>rfl
    have b0:((f.length:Int) == 0)=false:=by rw[beq_eq_false_iff_ne];omega
    go_wp2_with fail
    refine wp_region_gw_tail 6 (by kernel_rfl) (by kernel_rfl) ?_
    simp only[List.take_succ_cons,List.take_zero,List.drop_succ_cons,List.drop_zero]
    repeat (go_big_quiet_step (fail))
    refine wpQuiet_nil ?_
    intro g
    have hMg:=hide (hMa.out.kept (ext_by g.grown) (by simp))
    have hRg:=hide (hRa.out.kept (ext_by g.grown) (by simp) (by simp))
    have hFg:=hide (hFa.out.then (S':=[]) (Fr.of_ext g.grown) (by simp))
    go_wp2_with (at_mapUpdate;refine wpl_mstore rfl (.tmp 25) (.tmp 26) (.tmp 27) rfl (.slice VA q.length vcap, .slice JA f.length jcap,q,f) rfl rfl rfl fnKey Tryz.underlying116 hnb hMg.out hkk.out ?_;intro w5 hM5 hg5)
    first|go_frame|skip
    go_roundg L'.length
    case measure=>omega
    case rel=>exact⟨D++[(.slice VA q.length vcap, .slice JA f.length jcap,q,f)],L',rfl,by rw[List.length_append,List.length_singleton];omega,hpn,(by rw[List.length_append,List.length_singleton,←Nat.add_assoc];exact hM5.perm (upd_some hne.out hfe)),hRg.out.kept hg5 (by simpa using Ne.symm hmo) (by simpa using Ne.symm hmr),hFg.out.grown hg5 (fun z hz=>by obtain rfl:=Option.some.inj hz;exact .inl (by simp))⟩
end Go.Proofs.YtajelkkiijdegaaGreat
namespace Go.Proofs.YtajelkkiijdegaaGreat
open Go.RowKit
attribute [local go_sem] GW.cell GW.frozen In.eq_true In.le_true In.ne In.ne' In.ne_add In.ne_add' In.lt_add Upto.le_true Upto.le_add Upto.lt_add
attribute [-go_sem] sliced
attribute [local go_sem] sliced_eq
theorem ps_take(l:List Jp):∀n,(ps l).take (n*2)=ps (l.take n):=by
 induction l with
 |nil=>intro n;simp[ps]
 |cons p r ih =>
  intro n
  rcases n with _|n
  ·simp[ps]
  ·rw[show (n+1)*2=n*2+1+1 by omega]
   simpa [ps] using ih n
theorem jw_drop{w:World}{S:List Nat}{A:Option Addr}{cap:Nat}{l:List Jp}(h:Jw w S (.slice A l.length cap) l)(k:Nat)(hk:k≤l.length):Jw w S (.slice (cutA A k cap 2) (l.length-k) (cap-k)) (l.drop k):=by
 obtain⟨_,c,e,h1,h2,h3,h4⟩:=id h
 simp only[Value.slice.injEq] at e
 obtain⟨rfl, -,rfl⟩:=e
 have hc:=h.cut k l.length cap hk (Nat.le_refl _) h1 (Nat.le_refl _)
 rw[sliced_eq,List.take_of_length_le (by rw[ps_length];omega),ps_drop] at hc
 unfold Jw
 rw[List.length_drop]
 exact hc
theorem jw_take{w:World}{S:List Nat}{A:Option Addr}{cap:Nat}{l:List Jp}(h:Jw w S (.slice A l.length cap) l)(k:Nat)(hk:k≤l.length):Jw w S (.slice (cutA A 0 cap 2) k cap) (l.take k):=by
 obtain⟨_,c,e,h1,h2,h3,h4⟩:=id h
 simp only[Value.slice.injEq] at e
 obtain⟨rfl, -,rfl⟩:=e
 have hl:(l.take k).length=k:=by rw[List.length_take];omega
 have hc:=h.cut 0 k k (Nat.zero_le _) hk (Nat.le_refl _) (by omega)
 have hc:=h.cut 0 k cap (Nat.zero_le _) hk (by omega) (Nat.le_refl _)
 rw[sliced_eq,Nat.zero_mul,List.drop_zero,ps_take] at hc
 unfold Jw
 rw[hl]
 exact hc
theorem src_jmpAt{P:Program}{tx e':TypeId}(hk:P.underlying tx=some (.slice e'))(w:World)(B:Nat)(hB:B=w.heap.size)(x:Jp)(E:TypeId):Src P 2 tx (.slice (some ⟨B,0,none⟩) 1 1) 1 (ps [x]) (w.alloc (.cells #[.int .i64 x.1, .int .i64 x.2] E)):=by
 subst hB;exact src_jmp hk w x E
theorem cut_at{l:List Jp}{k:Nat}{t:Int}(hl:∀j∈l.take k,j.1<t)(hx:∀x,l[k]? = some x→t≤x.1):cutL l t=l.take k∧cutR l t=l.drop k:=by
 unfold cutL cutR
 induction l generalizing k with
 |nil=>simp
 |cons a r ih =>
  rcases k with _|k
  ·have h:=hx a rfl
   rw[List.takeWhile_cons,List.dropWhile_cons,if_neg (by simp;omega),if_neg (by simp;omega)]
   exact⟨rfl,rfl⟩
  ·have h:=hl a (by simp)
   obtain⟨i1,i2⟩:=ih (k:=k) (fun j hj=>hl j (by simp[hj])) (fun x hx'=>hx x (by simpa using hx'))
   rw[List.takeWhile_cons,List.dropWhile_cons,if_pos (by simpa using h),if_pos (by simpa using h),i1,i2]
   exact⟨rfl,rfl⟩
theorem cut_c(l:List Jp)(hb:mayJ l=true)(t:Int)(v:Value)(w:World)(h:Jw w [] v l):Calls Tryz.prog 107 #[v, .int .i64 t] w fun e w'=>∃v1 v2,e= .returned (.tuple #[v1,v2, .int .i64 (js (cutL l t))])∧(∀W,Jw W [] v l→Jw W [] v1 (cutL l t)∧Jw W [] v2 (cutR l t))∧Ext w w':=by
 obtain⟨A,cap,rfl,hl,hm,hat⟩:=jw_form h
 unfold maxLen at hm
 replace hat:=hide hat
 clear h
 have hnet:=hide (mayJ_net hb)
 have hn:=hide (show l.length≤4096 by have:=mayJ_len hb;omega)
 have hnI:(l.length:Int)≤4096:=by have:=hn.out;omega
 replace hb:=hide hb
 go_enter Tryz.func107,Tryz.ntmps107
 go_wp2_with fail
 go_loopg [6,7] l.length (fun gh s i wr=>∃(k:Nat) (z:Int),i= .int .i64 k∧s= .int .i64 z∧k+gh=l.length∧Hid (z=js (l.take k))∧Hid (∀j∈l.take k,j.1<t)∧Ext w wr)
 case atStart=>exact⟨0,0,rfl,rfl,by omega,rfl,(by intro j hj;simp at hj),Ext.refl w⟩
 case round =>
  obtain⟨k,z,rfl,rfl,hk,hz,hlo,hX⟩:=hrel
  by_cases hlt:k<l.length
  ·obtain⟨x,hx⟩:∃x,l[k]? = some x:=⟨_,List.getElem?_eq_getElem hlt⟩
   obtain⟨b,o,rfl, -,hbl,c0,c1⟩:=hat.out k x hx
   have k0:=jcell_later hX c0
   have k1:=jcell_later hX c1
   have hbr:b<wr.heap.size:=block_lt_of_cell k0
   obtain⟨z1,z2⟩:=(show -4294967296≤z∧z≤4294967296 by have:=hz.out;rw[this];exact js_small hnet.out hn.out k)
   obtain⟨n1,n2⟩:=hnet.out x (List.mem_of_getElem? hx)
   by_cases hle:x.1<t
   ·have hnx:=js_next hx
    rw[←hz.out] at hnx
    have hlo':Hid (∀j∈l.take (k+1),j.1<t):=by
     intro j hj
     rw[take_snoc hx] at hj
     rcases List.mem_append.1 hj with hj|hj
     ·exact hlo.out j hj
     ·simp only[List.mem_singleton] at hj;subst hj;exact hle
    clear c0 c1 hx hz hlo
    obtain⟨xp,xn⟩:=x
    simp only at n1 n2 hnx k0 k1 hle
    replace hnx:=hide hnx
    go_wp2_with fail
    go_roundg (l.length-(k+1))
    case measure=>omega
    case rel=>exact⟨k+1,z+xn,by go_num,by go_num,by omega,hnx.out.symm,hlo',hX⟩
   ·obtain⟨q1,q2⟩:=cut_at hlo.out (fun y hy=>by rw[hx] at hy;cases hy;omega)
    have e1:Hid (js (cutL l t)=z):=by show _=_;rw[q1,←hz.out]
    have hq1:=hide q1
    have hq2:=hide q2
    have d:decide (x.1<t)=false:=by rw[decide_eq_false_iff_not];exact hle
    have hkI:(k:Int)≤l.length:=by omega
    have hkc:k≤cap:=by omega
    clear c0 c1 hx hz hlo hle n1 n2 q1 q2
    obtain⟨xp,xn⟩:=x
    simp only at k0 k1 d
    go_wp2_with fail
    go_quiet (fail)
    go_wp2_with fail
    go_returns
    rw[e1.out]
    refine⟨_,_,rfl,fun W h=>?_,hX.drewN _⟩
    rw[hq1.out,hq2.out]
    exact⟨jw_take h k (by omega),jw_drop h k (by omega)⟩
  ·have hk':k=l.length:=by omega
   have hge:(l.length:Int)≤k:=by omega
   obtain⟨q1,q2⟩:=cut_at hlo.out (fun y hy=>by rw[List.getElem?_eq_none (by omega)] at hy;cases hy)
   have e1:Hid (js (cutL l t)=z):=by show _=_;rw[q1,←hz.out]
   have hq1:=hide q1
   have hq2:=hide q2
   have hkI:(k:Int)≤l.length:=by omega
   have hkc:k≤cap:=by omega
   replace hk':=hide hk'
   clear hz hlo q1 q2
   go_wp2_with fail
   go_quiet (fail)
   go_wp2_with fail
   go_returns
   rw[e1.out]
   refine⟨_,_,rfl,fun W h=>?_,hX.drewN _⟩
   rw[hq1.out,hq2.out]
   exact⟨jw_take h k (by omega),jw_drop h k (by omega)⟩
theorem stepRest_c(l:List Jp)(t:Int)(v:Value)(w:World)(h:Jw w [] v l):Calls Tryz.prog 58 #[v, .int .i64 t] w fun e w'=>∃v',e= .returned (.tuple #[v', .int .i64 (reE l t)])∧OwnJ w' w.heap.size v' (reR l t)∧Ext w w':=by
 have hm:=hide (stepMay_c l v w h)
 obtain⟨E,hE⟩:∃E,E=reE l t:=⟨_,rfl⟩
 obtain⟨R,hR⟩:∃R,R=reR l t:=⟨_,rfl⟩
 rw[←hE,←hR]
 cases hb:mayJ l
 ·have e1:E=2:=by rw[hE];unfold reE;rw[hb];rfl
  have e2:R=[]:=by rw[hR];unfold reR;rw[←hE,e1,if_neg (by decide)]
  subst e1
  subst e2
  rw[hb] at hm
  clear hb hE hR h
  go_enter Tryz.func58,Tryz.ntmps58
  go_wp2_with (go_at_call 106;(with_reducible refine seq_gw hm.out ?_);intro g)
  go_returns
  exact⟨_,rfl,World.ownsRow_nil _ _ _ _,g.grown⟩
 rw[hb] at hm
 by_cases htF:1125899906842624≤t
 ·have e0:reL l t=[]:=by unfold reL;rw[if_pos htF]
  have e1:E=0:=by rw[hE];unfold reE;rw[hb,e0];rfl
  have e2:R=[]:=by rw[hR];unfold reR;rw[←hE,e1,if_pos rfl,e0]
  subst e1
  subst e2
  clear e0 hE hR h hb
  go_enter Tryz.func58,Tryz.ntmps58
  go_wp2_with (go_at_call 106;(with_reducible refine seq_gw hm.out ?_);intro g)
  go_returns
  exact⟨_,rfl,World.ownsRow_nil _ _ _ _,g.grown⟩
 ·have d:decide (1125899906842624≤t)=false:=by rw[decide_eq_false_iff_not];exact htF
  have ec:=rest_code hb t (by omega)
  have hEF:Hid (E=full (reC l t)):=by show _=_;rw[hE,ec];unfold reE;rw[hb];rfl
  have hRF:Hid (R=kept (reC l t)):=by
   show _=_
   rw[hR,ec];unfold reR reE;rw[hb]
   unfold full kept
   cases mayJ (reL l t)<;>rfl
  have hcut:=hide (fun w' (hX:Ext w w')=>cut_c l hb t v w' (Sl.ext h hX))
  have lR:(cutR l t).length≤1024:=by have:=(List.dropWhile_sublist (fun j:Jp=>decide (j.1<t)) (l:=l)).length_le;have:=mayJ_len hb;unfold cutR;omega
  unfold reC at hEF hRF
  generalize js (cutL l t)=z at *
  generalize cutL l t=cl at *
  generalize cutR l t=cr at *
  have hh:=hide h
  replace hb:=hide hb
  clear hE hR h htF ec
  obtain⟨A,cap,rfl, -, -, -⟩:=jw_form hh.out
  by_cases hz:z=0
  ·subst hz
   rw[if_neg (by simp)] at hEF hRF
   go_enter Tryz.func58,Tryz.ntmps58
   go_wp2_with (first|(go_at_call 106;(with_reducible refine seq_gw hm.out ?_);intro g)|(go_at_call 107;refine (hcut.out _ g.grown).mono ?_;rintro ee w2 ⟨v1,v2,rfl,hv,hx2⟩;have hv2:=hide ((hv w2 (Sl.ext hh.out (g.grown.trans hx2))).2);have hX2:=hide (g.grown.trans hx2);have hsz:=hX2.out.size;clear hv)|(at_builtin;(refine wpl_app tJmp rfl (.tmp 29) (.tmp 30) rfl rfl (World.ownsRow_nil _ w.heap.size _ _) rfl (src_sl Tryz.underlying122 hv2.out (ps_one _) (by omega)) (by unfold maxLen;omega) (by omega) hsz ?_;intro v7 w7 ho7 hg7 _;have hX7:=hide (ext_grown hX2.out hg7 (fun k hk=>((World.ownsRow_nil w2 w.heap.size 178 2).lt k hk).1));have huf:=hide (unlessFull_c cr v7 w.heap.size w7 (by have:=own_appJ (l:=[]) ho7;simpa using this))))|(go_at_call 108;refine huf.out.mono ?_;rintro ee w4 ⟨v4,rfl,ho4,hx4⟩))
   go_returns
   rw[hEF.out,hRF.out]
   exact⟨_,rfl,ho4,hX7.out.trans hx4⟩
  ·have hzb:(z != 0)=true:=by simp[hz]
   rw[if_pos hz] at hEF hRF
   replace hz:=hide hz
   go_enter Tryz.func58,Tryz.ntmps58
   go_wp2_with (first|(go_at_call 106;(with_reducible refine seq_gw hm.out ?_);intro g)|(go_at_call 107;refine (hcut.out _ g.grown).mono ?_;rintro ee w2 ⟨v1,v2,rfl,hv,hx2⟩;have hv2:=hide ((hv w2 (Sl.ext hh.out (g.grown.trans hx2))).2);have hX2:=hide (g.grown.trans hx2);have hsz:=hX2.out.size;clear hv)|(at_builtin;(refine wpl_app tJmp rfl (.tmp 24) (.tmp 27) rfl rfl (World.ownsRow_nil _ w.heap.size _ _) rfl (src_jmp Tryz.underlying122 w2 (-1,z) _) (by unfold maxLen;omega) (by omega) (by simp only[World.size_alloc];omega) ?_;intro v6 w6 ho6 hg6 _;have hX6:=hide (ext_grown (hX2.out.alloc _) hg6 (fun k hk=>((World.ownsRow_nil w2 w.heap.size 178 2).lt k hk).1));have hX26:=hide (ext_grown ((Ext.refl w2).alloc _) hg6 (fun k hk=>((World.ownsRow_nil w2 w2.heap.size 178 2).lt k hk).1));have ho6':=hide (show OwnJ w6 w.heap.size v6 [(-1,z)] by have:=own_appJ (l:=[]) ho6;simpa using this);have hsz6:=hX6.out.size;clear ho6))|(at_builtin;(refine wpl_app tJmp rfl (.tmp 29) (.tmp 30) rfl rfl ho6'.out rfl (src_sl Tryz.underlying122 (Sl.ext hv2.out hX26.out) (ps_one _) (by omega)) (by unfold maxLen;simp only[List.length_singleton];omega) (by simp only[List.length_singleton];omega) hsz6 ?_;intro v7 w7 ho7 hg7 _;have hX7:=hide (ext_grown hX6.out hg7 (fun k hk=>(ho6'.out.lt k hk).1));have huf:=hide (unlessFull_c ((-1,z)::cr) v7 w.heap.size w7 (by have:=own_appJ (l:=[(-1,z)]) ho7;simpa using this))))|(go_at_call 108;refine huf.out.mono ?_;rintro ee w4 ⟨v4,rfl,ho4,hx4⟩))
   go_returns
   rw[hEF.out,hRF.out]
   exact⟨_,rfl,ho4,hX7.out.trans hx4⟩
end Go.Proofs.YtajelkkiijdegaaGreat
