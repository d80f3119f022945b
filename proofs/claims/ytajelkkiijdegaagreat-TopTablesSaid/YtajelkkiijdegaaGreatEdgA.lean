/-
  A helper of ours: no claim of its own. Layer 10 (edge): edges in memory (their rows lie elsewhere); what is asked of one edge, or of two.
-/
import Derived.Test.YtajelkkiijdegaaGreatValB
import Derived.Deep.LoopGhost
import Derived.BigQuiet
import Derived.Deep.AppendSrc
import Derived.Lib.LazyBuf
import Derived.WalkLawsBesides
import Derived.Test.YtajelkkiijdegaaGreatStepT
import Derived.Test.YtajelkkiijdegaaGreatMem
import Derived.ChangeSlices
import Derived.Deep.SlicePairs
import Derived.Deep.Matrix
import Derived.SizedLaws
import Derived.Test.YtajelkkiijdegaaGreatRows
import Derived.Handy
import Derived.WalkSpells
import Derived.WalkSmall
set_option linter.unusedVariables false
set_option linter.unusedSimpArgs false
set_option linter.unusedSectionVars false
set_option maxHeartbeats 64000000
set_option maxRecDepth 100000
namespace Go.Proofs.YtajelkkiijdegaaGreat
open Go.RowKit
attribute [local go_sem] GW.cell GW.frozen In.eq_true In.le_true In.ne In.ne' In.ne_add In.ne_add' In.lt_add Upto.le_true Upto.le_add Upto.lt_add
end Go.Proofs.YtajelkkiijdegaaGreat
namespace Go.Proofs.YtajelkkiijdegaaGreat
open Go.RowKit
theorem neq_val(k n k' m:Int)(s t:ByteArray)(w:World):(binOp .neq 83 (val k n s) (val k' m t)).run Tryz.prog w= .ok (.bool (!(k == k' && (n == m && s.toList == t.toList)))) w:=by
 by_cases h1:k=k'<;>by_cases h2:n=m<;>by_cases h3:s.toList=t.toList<;>simp[go_sem,h1,h2,h3]
theorem toList_iff{s t:ByteArray}:s.toList=t.toList↔s=t:=by
 rw[Lib.toList_data,Lib.toList_data]
 exact⟨text_eq,fun h=>by rw[h]⟩
theorem neq_same(k n:Int)(s:ByteArray)(w:World):(binOp .neq 83 (val k n s) (val k n s)).run Tryz.prog w= .ok (.bool false) w:=by
 rw[neq_val];simp
end Go.Proofs.YtajelkkiijdegaaGreat
namespace Go.Proofs.YtajelkkiijdegaaGreat
open Go.RowKit
attribute [local go_sem] GW.cell GW.frozen In.eq_true In.le_true In.ne In.ne' In.ne_add In.ne_add' In.lt_add Upto.le_true Upto.le_add Upto.lt_add
theorem neq_other{k n k' m:Int}{s t:ByteArray}(h:¬((k,n,s)=(k',m,t)))(w:World):(binOp .neq 83 (val k n s) (val k' m t)).run Tryz.prog w= .ok (.bool true) w:=by
 rw[neq_val]
 congr 2
 rw[Bool.not_eq_true',←Bool.not_eq_true]
 intro h'
 simp only[Bool.and_eq_true,beq_iff_eq,toList_iff] at h'
 obtain⟨rfl,rfl,rfl⟩:=h'
 exact h rfl
theorem cons_eq_dec{x y:Vl}(a b:List Vl)(h:x=y):decide (x::a=y::b)=decide (a=b):=by
 subst h;simp
theorem cons_ne_dec{x y:Vl}(a b:List Vl)(h:¬x=y):decide (x::a=y::b)=false:=by
 rw[decide_eq_false_iff_not];intro e;injection e with e1 _;exact h e1
section
variable {l m:List Vl} {v u:Value} {w:World}
theorem rowEqual_c(hl:Rw w [] v l)(hm:Rw w [] u m):Calls Tryz.prog 185 #[v,u] w fun e w'=>e= .returned (.bool (decide (l=m)))∧Ext w w':=by
 obtain⟨A,cap,rfl,hlc,hlm,hat⟩:=rw_form hl
 obtain⟨B,cap2,rfl,hmc,hmm,hbt⟩:=rw_form hm
 unfold maxLen at hlm hmm
 clear hl hm
 replace hat:=hide hat
 replace hbt:=hide hbt
 obtain⟨R,hR⟩:∃R,R=decide (l=m):=⟨_,rfl⟩
 rw[←hR]
 by_cases hn:l.length=m.length
 ·replace hR:=hide hR
  have hnI:(l.length:Int)=m.length:=by omega
  obtain⟨n,hln⟩:∃n,n=l.length:=⟨_,rfl⟩
  have hmn:n=m.length:=by omega
  rw[←hln] at hlc ⊢
  rw[←hmn] at hmc ⊢
  have hlI:=hide hln
  have hmI:=hide hmn
  clear hn hnI hln hmn
  go_enter Tryz.func185,Tryz.ntmps185
  go_wp2_with fail
  go_loopg [13] n (fun gh i wr=>∃(k:Nat),i= .int .i64 k∧k+gh=n∧Hid (R=decide (l.drop k=m.drop k))∧Ext w wr)
  case atStart=>exact⟨0,rfl,by omega,hR,Ext.refl w⟩
  case round =>
   obtain⟨k,rfl,hk,hRk,hX⟩:=hrel
   clear hR
   by_cases hlt:k<n
   ·obtain⟨x,hx⟩:∃x,l[k]? = some x:=⟨_,List.getElem?_eq_getElem (by have:=hlI.out;omega)⟩
    obtain⟨y,hy⟩:∃y,m[k]? = some y:=⟨_,List.getElem?_eq_getElem (by have:=hmI.out;omega)⟩
    obtain⟨b,o,rfl, -,hb,c0,c1,c2⟩:=hat.out k x hx
    obtain⟨b',o',rfl, -,hb',d0,d1,d2⟩:=hbt.out k y hy
    have k0:=cell_later hX c0
    have k1:=cell_later hX c1
    have k2:=cell_later hX c2
    have j0:=cell_later hX d0
    have j1:=cell_later hX d1
    have j2:=cell_later hX d2
    have hbr:b<wr.heap.size:=block_lt_of_cell k0
    have hbr':b'<wr.heap.size:=block_lt_of_cell j0
    have hR2:=hRk.out
    rw[drop_cons hx,drop_cons hy] at hR2
    obtain⟨xk,xn,xs⟩:=x
    obtain⟨yk,yn,ys⟩:=y
    clear c0 c1 c2 d0 d1 d2 hat hbt hx hy hlI hmI hRk
    by_cases hxy:(xk,xn,xs)=(yk,yn,ys)
    ·rw[cons_eq_dec _ _ hxy] at hR2
     replace hR2:=hide hR2
     cases hxy
     have hns:=neq_same xk xn xs
     go_wp2_with fail
     go_quiet (fail)
     go_wp2_with fail
     go_roundg (n-(k+1))
     case measure=>omega
     case rel=>exact⟨k+1,by go_num,by omega,hR2,hX.drewN _⟩
    ·rw[cons_ne_dec _ _ hxy] at hR2
     replace hR2:=hide hR2
     have hns:=neq_other hxy
     replace hxy:=hide hxy
     go_wp2_with fail
     go_quiet (fail)
     go_wp2_with fail
     go_returns
     exact⟨by rw[hR2.out];rfl,hX.drewN _⟩
   ·have hk':k=n:=by omega
    have hge:(n:Int)≤k:=by omega
    have hR2:=hRk.out
    rw[List.drop_eq_nil_of_le (by have:=hlI.out;omega),List.drop_eq_nil_of_le (by have:=hmI.out;omega)] at hR2
    replace hR2:R=true:=by simpa using hR2
    replace hR2:=hide hR2
    replace hk':=hide hk'
    go_wp2_with fail
    go_returns
    exact⟨by rw[hR2.out];rfl,hX⟩
 ·have hR2:R=false:=by rw[hR,decide_eq_false_iff_not];rintro rfl;exact hn rfl
  replace hR2:=hide hR2
  have hnI:¬(l.length:Int)=m.length:=by omega
  clear hR hn
  go_enter Tryz.func185,Tryz.ntmps185
  go_wp2_with fail
  go_returns
  exact⟨by rw[hR2.out];rfl,Ext.refl w⟩
theorem rowSame_c(hl:Rw w [] v l)(hm:Rw w [] u m):Calls Tryz.prog 133 #[v,u] w fun e w'=>e= .returned (.bool (decide (l=m)))∧Ext w w':=by
 have hc:=hide (rowEqual_c hl hm)
 generalize decide (l=m)=b at *
 clear hl hm
 go_enter Tryz.func133,Tryz.ntmps133
 go_wp2_with (go_at_call 185;(with_reducible refine seq_gw hc.out ?_);intro g)
 go_returns
 exact⟨rfl,g.grown⟩
end
theorem nanI_c(n:Int)(w:World):Calls Tryz.prog 158 #[.int .i64 n] w fun e w'=>e= .returned (.bool false)∧Ext w w':=by
 go_enter Tryz.func158,Tryz.ntmps158
 go_wp2_with fail
 go_returns
 exact⟨rfl,Ext.refl w⟩
theorem cmpInt_c(n m:Int)(w:World):Calls Tryz.prog 102 #[.int .i64 n, .int .i64 m] w fun e w'=>e= .returned (.int .i64 (cmpN n m))∧Ext w w':=by
 obtain⟨r,hr⟩:∃r,r=cmpN n m:=⟨_,rfl⟩
 rw[←hr]
 unfold cmpN at hr
 by_cases h1:n<m
 ·rw[if_pos h1] at hr
  subst hr
  go_enter Tryz.func102,Tryz.ntmps102
  go_wp2_with (go_at_call 158;(first|(with_reducible refine seq_gw' (nanI_c _ _) ?_)|(with_reducible refine seq_gw (nanI_c _ _) ?_));intro g)
  go_returns
  exact⟨rfl,g.grown⟩
 ·by_cases h2:m<n
  ·rw[if_neg h1,if_pos h2] at hr
   subst hr
   go_enter Tryz.func102,Tryz.ntmps102
   go_wp2_with (go_at_call 158;(first|(with_reducible refine seq_gw' (nanI_c _ _) ?_)|(with_reducible refine seq_gw (nanI_c _ _) ?_));intro g)
   go_returns
   exact⟨rfl,g.grown⟩
  ·rw[if_neg h1,if_neg h2] at hr
   subst hr
   have e:n=m:=by omega
   subst e
   go_enter Tryz.func102,Tryz.ntmps102
   go_wp2_with (go_at_call 158;(first|(with_reducible refine seq_gw' (nanI_c _ _) ?_)|(with_reducible refine seq_gw (nanI_c _ _) ?_));intro g)
   go_returns
   exact⟨rfl,g.grown⟩
def pre:List Vl→List Vl→Nat
 |x::a,y::b=>if x=y then pre a b+1 else 0
 |_,_=>0
theorem pre_le:∀a b:List Vl,pre a b≤a.length∧pre a b≤b.length
 |[],[]=>⟨Nat.le_refl _,Nat.le_refl _⟩
 |[],_::_=>⟨Nat.le_refl _,Nat.zero_le _⟩
 |_::_,[]=>⟨Nat.zero_le _,Nat.le_refl _⟩
 |x::a,y::b=>by
  simp only[pre,List.length_cons]
  have:=pre_le a b
  split<;>omega
theorem cmpT_end:∀a b:List Vl,pre a b=min a.length b.length→cmpT a b=cmpN a.length b.length
 |[],[],_=>by simp[cmpT,cmpN]
 |[],_::_,_=>by first|(simp [cmpT,cmpN];done)|(simp [cmpT,cmpN];omega)
 |_::_,[],_=>by first|(simp [cmpT,cmpN];done)|(simp [cmpT,cmpN];omega)
 |x::a,y::b,h=>by
  simp only[pre,cmpT] at h ⊢
  by_cases e:x=y
  ·rw[if_pos e] at h ⊢
   rw[cmpT_end a b (by simp only[List.length_cons] at h;omega)]
   simp only[cmpN,List.length_cons]
   split<;>split<;>(try split)<;>(try split)<;>first|rfl|omega
  ·rw[if_neg e] at h
   simp only[List.length_cons] at h;omega
theorem cmpT_diff:∀a b:List Vl,∀x y,a[pre a b]? = some x→b[pre a b]? = some y→cmpT a b=cmpV x y
 |[],_,x,y,hx,_=>by simp at hx
 |_::_,[],x,y,_,hy=>by simp at hy
 |p::a,q::b,x,y,hx,hy=>by
  simp only[pre,cmpT] at hx hy ⊢
  by_cases e:p=q
  ·rw[if_pos e] at hx hy ⊢
   exact cmpT_diff a b x y (by simpa using hx) (by simpa using hy)
  ·rw[if_neg e] at hx hy ⊢
   simp at hx hy
   rw[hx,hy]
section
variable {l m:List Vl} {v u:Value} {w:World}
theorem differ_c{ba bb:Nat}(hl:Rw w [] v l)(hm:Rw w [] u m)(oa:Ob w ba 35 [v])(ob:Ob w bb 35 [u])(k:Nat)(x y:Vl)(hx:l[k]? = some x)(hy:m[k]? = some y) :
 Calls Tryz.prog 189 #[.int .i64 k, .pointer (some ⟨ba,0,none⟩), .pointer (some ⟨bb,0,none⟩)] w fun e w'=>e= .returned (.bool (!decide (x=y)))∧Ext w w':=by
 obtain⟨A,cap,rfl,hlc,hlm,hat⟩:=rw_form hl
 obtain⟨B,cap2,rfl,hmc,hmm,hbt⟩:=rw_form hm
 unfold maxLen at hlm hmm
 obtain⟨b,o,rfl, -,hb,k0,k1,k2⟩:=hat k x hx
 obtain⟨b',o',rfl, -,hb',j0,j1,j2⟩:=hbt k y hy
 have hkl:k<l.length:=(List.getElem?_eq_some_iff.1 hx).1
 have hkm:k<m.length:=(List.getElem?_eq_some_iff.1 hy).1
 have q0:=oa.cell 0 rfl
 have q1:=ob.cell 0 rfl
 have hba:=oa.lt
 have hbb:=ob.lt
 obtain⟨xk,xn,xs⟩:=x
 obtain⟨yk,yn,ys⟩:=y
 clear hl hm hat hbt hx hy oa ob
 by_cases hxy:(xk,xn,xs)=(yk,yn,ys)
 ·cases hxy
  rw[decide_eq_true rfl]
  have hns:=neq_same xk xn xs
  go_enter Tryz.func189,Tryz.ntmps189
  go_wp2_with fail
  go_quiet (fail)
  go_wp2_with fail
  go_returns
  exact⟨rfl,(Ext.refl w).drewN _⟩
 ·rw[decide_eq_false hxy]
  have hns:=neq_other hxy
  replace hxy:=hide hxy
  go_enter Tryz.func189,Tryz.ntmps189
  go_wp2_with fail
  go_quiet (fail)
  go_wp2_with fail
  go_returns
  exact⟨rfl,(Ext.refl w).drewN _⟩
theorem first_c{ba bb:Nat}(hl:Rw w [] v l)(hm:Rw w [] u m)(oa:Ob w ba 35 [v])(ob:Ob w bb 35 [u])(n:Nat)(hn:n=min l.length m.length) :
 Calls Tryz.prog 188 #[.int .i64 n, .func (.func 189) #[] #[.pointer (some ⟨ba,0,none⟩), .pointer (some ⟨bb,0,none⟩)]] w fun e w'=>e= .returned (.int .i64 (pre l m:Nat))∧Ext w w':=by
 have hmx:n≤9223372036854775807:=by have:=hl.le;unfold maxLen at this;omega
 have hd:Hid (∀wr,Ext w wr→∀(k:Nat) (x y:Vl),l[k]? = some x→m[k]? = some y→Calls Tryz.prog 189 #[.int .i64 k, .pointer (some ⟨ba,0,none⟩), .pointer (some ⟨bb,0,none⟩)] wr fun e w'=>e= .returned (.bool (!decide (x=y)))∧Ext wr w') :=
  fun wr hX k x y hx hy=>differ_c (Sl.ext hl hX) (Sl.ext hm hX) (oa.ext hX) (ob.ext hX) k x y hx hy
 obtain⟨R,hR⟩:∃R,R=pre l m:=⟨_,rfl⟩
 rw[←hR]
 replace hR:=hide hR
 replace hn:=hide hn
 clear hl hm oa ob
 go_enter Tryz.func188,Tryz.ntmps188
 go_wp2_with fail
 go_loopg [7] n (fun gh i wr=>∃(k:Nat),i= .int .i64 k∧k+gh=n∧Hid (R=k+pre (l.drop k) (m.drop k))∧Ext w wr)
 case atStart=>exact⟨0,rfl,by omega,(by show R=0+pre (l.drop 0) (m.drop 0);rw[hR.out];simp),Ext.refl w⟩
 case round =>
  obtain⟨k,rfl,hk,hRk,hX⟩:=hrel
  clear hR
  by_cases hlt:k<n
  ·obtain⟨x,hx⟩:∃x,l[k]? = some x:=⟨_,List.getElem?_eq_getElem (by have:=hn.out;omega)⟩
   obtain⟨y,hy⟩:∃y,m[k]? = some y:=⟨_,List.getElem?_eq_getElem (by have:=hn.out;omega)⟩
   have hR2:=hRk.out
   rw[drop_cons hx,drop_cons hy] at hR2
   simp only[pre] at hR2
   have hc:=hide (hd.out wr hX k x y hx hy)
   clear hx hy hd hRk
   by_cases hxy:x=y
   ·rw[if_pos hxy] at hR2
    rw[decide_eq_true hxy] at hc
    replace hxy:=hide hxy
    replace hR2:=hide (show R=(k+1)+pre (l.drop (k+1)) (m.drop (k+1)) by omega)
    go_wp2_with (go_at_call 189;(with_reducible refine seq_gw hc.out ?_);intro g)
    go_roundg (n-(k+1))
    case measure=>omega
    case rel=>exact⟨k+1,by go_num,by omega,hR2,hX.trans g.grown⟩
   ·rw[if_neg hxy] at hR2
    rw[decide_eq_false hxy] at hc
    replace hxy:=hide hxy
    replace hR2:=hide hR2
    go_wp2_with (go_at_call 189;(with_reducible refine seq_gw hc.out ?_);intro g)
    go_returns
    exact⟨by rw[hR2.out];rfl,hX.trans g.grown⟩
  ·have hge:(n:Int)≤k:=by omega
   have hR2:=hRk.out
   have hp:pre (l.drop k) (m.drop k)=0:=by
    have h1:=pre_le (l.drop k) (m.drop k)
    rw[List.length_drop,List.length_drop] at h1
    have:=hn.out
    omega
   have hkn:k=n:=by omega
   rw[hp,hkn] at hR2
   replace hR2:=hide hR2
   replace hkn:=hide hkn
   clear hp
   go_wp2_with fail
   go_returns
   exact⟨by rw[hR2.out];rfl,hX⟩
end
abbrev bxR(v:Value):Obj:= .cells #[v] 35
section
variable {l m:List Vl} {v u:Value} {w:World}
theorem rowCompareNo_c(hl:Rw w [] v l)(hm:Rw w [] u m)(h:(mayR l && mayR m)=false):Calls Tryz.prog 137 #[v,u] w fun e w'=>e= .returned (.int .i64 0)∧Ext w w':=by
 have h1:=hide (fun w' (hX:Ext w w')=>rowMay_c l v w' (Sl.ext hl hX))
 have h2:=hide (fun w' (hX:Ext w w')=>rowMay_c m u w' (Sl.ext hm hX))
 obtain⟨A,cap,rfl, -, -, -⟩:=rw_form hl
 obtain⟨B,cap2,rfl, -, -, -⟩:=rw_form hm
 have hX0:=hide (((Ext.refl w).alloc (bxR (.slice A l.length cap))).alloc (bxR (.slice B m.length cap2)))
 clear hl hm
 cases ha:mayR l
 ·rw[ha] at h1
  clear h ha
  go_enter Tryz.func137,Tryz.ntmps137
  go_wp2_with (go_at_call 55;(with_reducible refine seq_gw (h1.out _ hX0.out) ?_);intro g)
  go_returns
  exact⟨rfl,hX0.out.trans g.grown⟩
 ·rw[ha,Bool.true_and] at h
  rw[ha] at h1
  rw[h] at h2
  clear h ha
  go_enter Tryz.func137,Tryz.ntmps137
  go_wp2_with (first|(go_at_call 55;(with_reducible refine seq_gw (h1.out _ hX0.out) ?_);intro g)|(go_at_call 55;(with_reducible refine seq_gw' (h2.out _ (hX0.out.trans g.grown)) ?_);intro g2))
  go_returns
  exact⟨rfl,hX0.out.trans g2.grown⟩
theorem rowCompareYes_c(hl:Rw w [] v l)(hm:Rw w [] u m)(ha:mayR l=true)(hb:mayR m=true):Calls Tryz.prog 137 #[v,u] w fun e w'=>e= .returned (.int .i64 (cmpT l m))∧Ext w w':=by
 have h1:=hide (fun w' (hX:Ext w w')=>rowMay_c l v w' (Sl.ext hl hX))
 have h2:=hide (fun w' (hX:Ext w w')=>rowMay_c m u w' (Sl.ext hm hX))
 rw[ha] at h1
 rw[hb] at h2
 obtain⟨A,cap,rfl,hlc,hlm,hat⟩:=rw_form hl
 obtain⟨B,cap2,rfl,hmc,hmm,hbt⟩:=rw_form hm
 unfold maxLen at hlm hmm
 have l8:=(mayR_iff.1 ha).1
 have m8:=(mayR_iff.1 hb).1
 replace hat:=hide hat
 replace hbt:=hide hbt
 have hX0:=hide (((Ext.refl w).alloc (bxR (.slice A l.length cap))).alloc (bxR (.slice B m.length cap2)))
 have oa:=(Ob.new w 35 [.slice A l.length cap]).alloc (bxR (.slice B m.length cap2))
 have ob:Ob ((w.alloc (bxR (.slice A l.length cap))).alloc (bxR (.slice B m.length cap2))) (w.heap.size+1) 35 [.slice B m.length cap2]:=by
  have:=Ob.new (w.alloc (bxR (.slice A l.length cap))) 35 [.slice B m.length cap2]
  simpa using this
 replace oa:=hide oa
 replace ob:=hide ob
 have hf:Hid (∀w',Ext ((w.alloc (bxR (.slice A l.length cap))).alloc (bxR (.slice B m.length cap2))) w'→Calls Tryz.prog 188 #[.int .i64 (min l.length m.length:Nat), .func (.func 189) #[] #[.pointer (some ⟨w.heap.size,0,none⟩), .pointer (some ⟨w.heap.size+1,0,none⟩)]] w' fun e w''=>e= .returned (.int .i64 (pre l m:Nat))∧Ext w' w'') :=
  fun w' hX=>first_c (Sl.ext hl (hX0.out.trans hX)) (Sl.ext hm (hX0.out.trans hX)) (oa.out.ext hX) (ob.out.ext hX) _ rfl
 have hpl:=pre_le l m
 by_cases hlt:m.length<l.length
 ·have e0:min l.length m.length=m.length:=by omega
  rw[e0] at hf
  have hI:(m.length:Int)<l.length:=by omega
  by_cases hp:pre l m=m.length
  ·have hce:=cmpT_end l m (by rw[e0];exact hp)
   rw[hce]
   rw[hp] at hf
   have hc:=hide (fun w=>cmpInt_c l.length m.length w)
   clear hce hp e0 hlt hat hbt hpl ha hb oa ob hl hm
   go_enter Tryz.func137,Tryz.ntmps137
   go_wp2_with (first|(go_at_call 55;(with_reducible refine seq_gw (h1.out _ hX0.out) ?_);intro g)|(go_at_call 55;(with_reducible refine seq_gw' (h2.out _ (hX0.out.trans g.grown)) ?_);intro g2)|(go_at_call 188;(with_reducible refine seq_gw' (hf.out _ g2.grown) ?_);intro g3)|(go_at_call 102;(with_reducible refine seq_gw' (hc.out _) ?_);intro g4))
   go_returns
   exact⟨rfl,hX0.out.trans g4.grown⟩
  ·obtain⟨x,hx⟩:∃x,l[pre l m]? = some x:=⟨_,List.getElem?_eq_getElem (by omega)⟩
   obtain⟨y,hy⟩:∃y,m[pre l m]? = some y:=⟨_,List.getElem?_eq_getElem (by omega)⟩
   have hcd:=cmpT_diff l m x y hx hy
   rw[hcd]
   obtain⟨b,o,rfl, -,hb1,c0,c1,c2⟩:=hat.out _ x hx
   obtain⟨b',o',rfl, -,hb2,d0,d1,d2⟩:=hbt.out _ y hy
   obtain⟨xk,xn,xs⟩:=x
   obtain⟨yk,yn,ys⟩:=y
   have hc:=hide (fun w=>compare_c xk xn yk yn xs ys w)
   have hpb:(((pre l m:Nat):Int) == m.length)=false:=by rw[beq_eq_false_iff_ne];omega
   have hp1:pre l m<l.length:=by omega
   have hp2:pre l m<m.length:=by omega
   haveI:In b w:=⟨hb1⟩
   haveI:In b' w:=⟨hb2⟩
   generalize pre l m=q at *
   clear hcd hp e0 hlt hat hbt hx hy hpl ha hb oa ob hl hm
   go_enter Tryz.func137,Tryz.ntmps137
   go_wp2_with (first|(go_at_call 55;(with_reducible refine seq_gw (h1.out _ hX0.out) ?_);intro g)|(go_at_call 55;(with_reducible refine seq_gw' (h2.out _ (hX0.out.trans g.grown)) ?_);intro g2)|(go_at_call 188;(with_reducible refine seq_gw' (hf.out _ g2.grown) ?_);intro g3))
   refine wp_region_gw (by kernel_rfl) (by kernel_rfl) ?_
   repeat (go_big_quiet_step ((go_at_call 190;with_reducible exact quiet_gw (hc.out _))))
   refine wpQuiet_nil ?_
   intro g4
   go_wp2_with fail
   go_returns
   exact⟨rfl,hX0.out.trans (g3.grown.trans g4.grown)⟩
 ·have e0:min l.length m.length=l.length:=by omega
  rw[e0] at hf
  have hI:¬(m.length:Int)<l.length:=by omega
  by_cases hp:pre l m=l.length
  ·have hce:=cmpT_end l m (by rw[e0];exact hp)
   rw[hce]
   rw[hp] at hf
   have hc:=hide (fun w=>cmpInt_c l.length m.length w)
   clear hce hp e0 hlt hat hbt hpl ha hb oa ob hl hm
   go_enter Tryz.func137,Tryz.ntmps137
   go_wp2_with (first|(go_at_call 55;(with_reducible refine seq_gw (h1.out _ hX0.out) ?_);intro g)|(go_at_call 55;(with_reducible refine seq_gw' (h2.out _ (hX0.out.trans g.grown)) ?_);intro g2)|(go_at_call 188;(with_reducible refine seq_gw' (hf.out _ g2.grown) ?_);intro g3)|(go_at_call 102;(with_reducible refine seq_gw' (hc.out _) ?_);intro g4))
   go_returns
   exact⟨rfl,hX0.out.trans g4.grown⟩
  ·obtain⟨x,hx⟩:∃x,l[pre l m]? = some x:=⟨_,List.getElem?_eq_getElem (by omega)⟩
   obtain⟨y,hy⟩:∃y,m[pre l m]? = some y:=⟨_,List.getElem?_eq_getElem (by omega)⟩
   have hcd:=cmpT_diff l m x y hx hy
   rw[hcd]
   obtain⟨b,o,rfl, -,hb1,c0,c1,c2⟩:=hat.out _ x hx
   obtain⟨b',o',rfl, -,hb2,d0,d1,d2⟩:=hbt.out _ y hy
   obtain⟨xk,xn,xs⟩:=x
   obtain⟨yk,yn,ys⟩:=y
   have hc:=hide (fun w=>compare_c xk xn yk yn xs ys w)
   have hpb:(((pre l m:Nat):Int) == l.length)=false:=by rw[beq_eq_false_iff_ne];omega
   have hp1:pre l m<l.length:=by omega
   have hp2:pre l m<m.length:=by omega
   haveI:In b w:=⟨hb1⟩
   haveI:In b' w:=⟨hb2⟩
   generalize pre l m=q at *
   clear hcd hp e0 hlt hat hbt hx hy hpl ha hb oa ob hl hm
   go_enter Tryz.func137,Tryz.ntmps137
   go_wp2_with (first|(go_at_call 55;(with_reducible refine seq_gw (h1.out _ hX0.out) ?_);intro g)|(go_at_call 55;(with_reducible refine seq_gw' (h2.out _ (hX0.out.trans g.grown)) ?_);intro g2)|(go_at_call 188;(with_reducible refine seq_gw' (hf.out _ g2.grown) ?_);intro g3))
   refine wp_region_gw (by kernel_rfl) (by kernel_rfl) ?_
   repeat (go_big_quiet_step ((go_at_call 190;with_reducible exact quiet_gw (hc.out _))))
   refine wpQuiet_nil ?_
   intro g4
   go_wp2_with fail
   go_returns
   exact⟨rfl,hX0.out.trans (g3.grown.trans g4.grown)⟩
theorem rowCompare_c(hl:Rw w [] v l)(hm:Rw w [] u m):Calls Tryz.prog 137 #[v,u] w fun e w'=>e= .returned (.int .i64 (cmpR l m))∧Ext w w':=by
 cases h:(mayR l && mayR m)
 ·rw[show cmpR l m=0 by unfold cmpR;rw[h];rfl]
  exact rowCompareNo_c hl hm h
 ·rw[show cmpR l m=cmpT l m by unfold cmpR;rw[h];rfl]
  rw[Bool.and_eq_true] at h
  exact rowCompareYes_c hl hm h.1 h.2
end
end Go.Proofs.YtajelkkiijdegaaGreat
namespace Go.Proofs.YtajelkkiijdegaaGreat
open Go.RowKit
theorem full_zero{f:List Jp}:full f=0↔mayJ f=true:=by
 unfold full
 cases mayJ f
 ·simp
 ·simp
theorem twE_zero{op:Int→Int→Int}{f g:List Jp}:twE op f g=0↔mayJ f=true∧mayJ g=true∧mayJ (opd op f g)=true:=by
 unfold twE
 cases mayJ f<;>cases mayJ g<;>simp[full_zero]
theorem reE_zero{f:List Jp}{t:Int}:reE f t=0↔mayJ f=true∧mayJ (reL f t)=true:=by
 unfold reE;cases mayJ f<;>simp[full_zero]
theorem reC_val{f:List Jp}(hf:mayJ f=true)(t u:Int)(hu: -1≤u):jv (reC f t) u=js (cutL f t)+jv (cutR f t) u:=by
 unfold reC;split
 ·rw[jv,if_pos (by simp only;omega)]
 ·rename_i h0;simp only[ne_eq,Decidable.not_not] at h0;rw[h0];omega
theorem re_right{f:List Jp}{t p:Int}(h:reE f t=0)(hp:t≤p)(h0:0≤t)(ht:t<1125899906842624):atV (reR f t) p=atV f p:=by
 unfold reR;rw[if_pos h]
 obtain⟨hf,ha⟩:=reE_zero.1 h
 unfold atV;rw[hf,ha]
 simp only[if_true]
 rw[←rest_code hf t ht,reC_val hf t p (by omega)]
 have e:=jv_append (cutL f t) (cutR f t) p
 rw[cut_eq,jv_high (f:=cutL f t) (fun j hj=>by have:=cutL_lt f t j hj;omega)] at e
 exact e.symm
theorem re_left{f:List Jp}{t p:Int}(h:reE f t=0)(hp:p<t)(hp1: -1≤p)(ht:t<1125899906842624):atV (reR f t) p=atV f (t-1):=by
 unfold reR;rw[if_pos h]
 obtain⟨hf,ha⟩:=reE_zero.1 h
 unfold atV;rw[hf,ha]
 simp only[if_true]
 have hc:=(mayJ_canon hf).1
 rw[←rest_code hf t ht,reC_val hf t p (by omega),jv_low (f:=cutR f t) (fun j hj=>by have:=cutR_ge hc t j hj;omega),cutL_js hc];omega
end Go.Proofs.YtajelkkiijdegaaGreat
namespace Go.Proofs.YtajelkkiijdegaaGreat
open Go.RowKit Go.Deep Go.ChangeShapes
section
variable {H:Type} {enc:TypeId×Value→H} {P:Program} {w:World} {base fuel:Nat} {held:Bool}
theorem addr_plain{a:Addr}{i:Nat}{v:Value}(h:w.cell? (a.add i)=some v)(h0:i=0):∃b o,a=⟨b,o,none⟩:=by
 subst h0
 have:=World.cell?_spot h
 obtain⟨b,o,s⟩:=a
 simp[Addr.add] at this
 subst this
 exact⟨b,o,rfl⟩
theorem wf_i64{z:Int}(h:(Lit.int .i64 z).wf=true): -9223372036854775808≤z∧z≤9223372036854775807:=by simpa [Lit.wf,IntKind.min,IntKind.max,IntKind.bits,IntKind.signed] using h
def sliceLen:DataW H→Nat
 | .slice elems spare=>elems.length
 |_=>0
def ps(l:List (Int×Int)):List Value:=l.flatMap fun p=>[.int .i64 p.1, .int .i64 p.2]
theorem ps_length(l:List (Int×Int)):(ps l).length=l.length*2:=by
 induction l with
 |nil=>rfl
 |cons p r ih=>simp only[ps,List.flatMap_cons,List.length_append,List.length_cons,List.length_nil] at ih ⊢;omega
theorem ps_get:∀(l:List (Int×Int)) (i:Nat) (p:Int×Int),l[i]? = some p→(ps l)[i*2]? = some (.int .i64 p.1)∧(ps l)[i*2+1]? = some (.int .i64 p.2)
 |q::r,0,p,h=>by simp at h;subst h;exact⟨rfl,rfl⟩
 |q::r,i+1,p,h=>by
  have:=ps_get r i p (by simpa using h)
  rw[show (i+1)*2=i*2+1+1 by omega]
  simpa [ps] using this
end
end Go.Proofs.YtajelkkiijdegaaGreat
namespace Go.Proofs.YtajelkkiijdegaaGreat
open Go.RowKit
attribute [local go_sem] GW.cell GW.frozen In.eq_true In.le_true In.ne In.ne' In.ne_add In.ne_add' In.lt_add Upto.le_true Upto.le_add Upto.lt_add
theorem ps_append(l m:List Jp):ps (l++m)=ps l++ps m:=by simp[ps]
theorem ps_drop(l:List Jp):∀n,(ps l).drop (n*2)=ps (l.drop n):=by
 induction l with
 |nil=>intro n;simp[ps]
 |cons p r ih =>
  intro n
  rcases n with _|n
  ·simp[ps]
  ·rw[show (n+1)*2=n*2+1+1 by omega]
   simpa [ps] using ih n
theorem ps_one(l:List Jp):∀u∈ps l,u.oneCell'=true:=by
 intro u hu
 simp only[ps,List.mem_flatMap] at hu
 obtain⟨a,_,hu⟩:=hu
 simp at hu
 rcases hu with rfl|rfl<;>rfl
abbrev Jw(w:World)(S:List Nat)(v:Value)(l:List Jp):Prop:=Sl w S 2 v l.length (ps l)
abbrev OwnJ(w:World)(base:Nat)(v:Value)(l:List Jp):Prop:=w.ownsRow base 178 2 v l.length (ps l)
theorem jw_form{w:World}{S:List Nat}{v:Value}{l:List Jp}(h:Jw w S v l):∃A cap,v= .slice A l.length cap∧l.length≤cap∧cap≤maxLen ∧
 ∀(i:Nat) (x:Jp),l[i]? = some x→∃b o,A=some ⟨b,o,none⟩∧b∉S∧b<w.heap.size∧w.cell? ⟨b,o+i*2,none⟩=some (.int .i64 x.1)∧w.cell? ⟨b,o+i*2+1,none⟩=some (.int .i64 x.2):=by
 obtain⟨A,cap,rfl,h1,h2,h3,h4⟩:=h
 refine⟨A,cap,rfl,h1,h2,fun i x hx=>?_⟩
 obtain⟨g0,g1⟩:=ps_get l i x hx
 rcases h4 with h4|⟨b,o,rfl,hb,hc⟩
 ·rw[h4] at g0;cases g0
 ·have c0:=hc _ _ g0
  have c1:=hc _ _ g1
  exact⟨b,o,rfl,hb,block_lt_of_cell c0,c0,c1⟩
theorem jcell_later{w wr:World}(h:Ext w wr){b o:Nat}{u:Value}(hc:w.cell? ⟨b,o,none⟩=some u):wr.cell? ⟨b,o,none⟩=some u :=
 (World.cell?_of_block (a:=⟨b,o,none⟩) (h.block b (block_lt_of_cell hc))).trans hc
theorem jdrop_cons{α:Type}{l:List α}{k:Nat}{x:α}(h:l[k]? = some x):l.drop k=x::l.drop (k+1):=by
 have hk:=(List.getElem?_eq_some_iff.1 h).1
 rw[List.drop_eq_getElem_cons hk]
 rw[List.getElem?_eq_getElem hk] at h
 rw[Option.some.inj h]
theorem take_snoc{α:Type}{l:List α}{k:Nat}{x:α}(h:l[k]? = some x):l.take (k+1)=l.take k++[x]:=by
 rw[List.take_add_one,h];rfl
theorem tJmp:ElemT Tryz.prog 122 178 (.agg #[.int .i64 0, .int .i64 0]) 2 16:=ElemT.mk' Tryz.underlying122 (by kernel_rfl) rfl (by omega)
theorem own_appJ{w:World}{B:Nat}{v:Value}{l m:List Jp}(h:w.ownsRow B 178 2 v (l.length+m.length) (ps l++ps m)):OwnJ w B v (l++m):=by
 unfold OwnJ;rw[List.length_append,ps_append];exact h
theorem own_jw{w:World}{B:Nat}{S:List Nat}{v:Value}{l:List Jp}(h:OwnJ w B v l)(hs:∀b,b∈S→b<B):Jw w S v l:=Sl.own h hs
abbrev jm(x:Jp):Value:= .agg #[.int .i64 x.1, .int .i64 x.2]
theorem src_jmp{P:Program}{tx e':TypeId}(hk:P.underlying tx=some (.slice e'))(w:World)(x:Jp)(E:TypeId):Src P 2 tx (.slice (some ⟨w.heap.size,0,none⟩) 1 1) 1 (ps [x]) (w.alloc (.cells #[.int .i64 x.1, .int .i64 x.2] E)) :=
 Src.ofSlice _ hk _ 1 1 (ps [x]) (by simp[ps]) (fun j u hj=>by
  have hj':j<2:=by
   have:=(List.getElem?_eq_some_iff.1 hj).1
   simpa [ps] using this
  have hh:=(Ob.new w E [.int .i64 x.1, .int .i64 x.2]).cell j hj
  rw[show (⟨w.heap.size,0,none⟩:Addr).add j=⟨w.heap.size,j,none⟩ by rw[add_plain];simp]
  exact hh) (by
  intro u hu
  exact ps_one [x] u hu)
def instB(t:Int):Bool:=decide (-1≤t∧t<1125899906842624)
theorem inst_yes{t:Int}(h:instB t=true): -1≤t∧t<1125899906842624:=by unfold instB at h;simpa using h
theorem inst_no{t:Int}(h:instB t=false):t < -1∨(-1≤t∧1125899906842624≤t):=by unfold instB at h;rw[decide_eq_false_iff_not] at h;omega
theorem isInstant_c(t:Int)(w:World):Calls Tryz.prog 161 #[.int .i64 t] w fun e w'=>e= .returned (.bool (instB t))∧Ext w w':=by
 cases h:instB t
 ·rcases inst_no h with h1|⟨h1,h2⟩
  ·clear h
   go_enter Tryz.func161,Tryz.ntmps161
   go_wp2_with fail
   go_returns
   exact⟨rfl,Ext.refl w⟩
  ·have h3:decide (t<1125899906842624)=false:=by rw[decide_eq_false_iff_not];omega
   clear h h2
   go_enter Tryz.func161,Tryz.ntmps161
   go_wp2_with fail
   go_returns
   exact⟨rfl,Ext.refl w⟩
 ·obtain⟨h1,h2⟩:=inst_yes h
  clear h
  go_enter Tryz.func161,Tryz.ntmps161
  go_wp2_with fail
  go_returns
  exact⟨rfl,Ext.refl w⟩
theorem isTooGreat_c(x:Jp)(w:World):Calls Tryz.prog 162 #[jm x] w fun e w'=>e= .returned (.bool (tooJ x))∧Ext w w':=by
 obtain⟨p,n⟩:=x
 obtain⟨R,hR⟩:∃R,R=tooJ (p,n):=⟨_,rfl⟩
 rw[←hR]
 unfold tooJ at hR
 by_cases h1:1048576<n
 ·have e:R=true:=by rw[hR,decide_eq_true_iff];exact .inl h1
  subst e
  clear hR
  go_enter Tryz.func162,Tryz.ntmps162
  go_wp2_with fail
  go_returns
  exact⟨rfl,(Ext.refl w).alloc _⟩
 ·have h1':n≤1048576:=by omega
  by_cases h2:n < -1048576
  ·have e:R=true:=by rw[hR,decide_eq_true_iff];exact .inr h2
   subst e
   clear hR h1
   go_enter Tryz.func162,Tryz.ntmps162
   go_wp2_with fail
   go_returns
   exact⟨rfl,(Ext.refl w).alloc _⟩
  ·have e:R=false:=by rw[hR,decide_eq_false_iff_not];simp only;omega
   have h2':decide (n < -1048576)=false:=by rw[decide_eq_false_iff_not];exact h2
   have h1'':decide (1048576<n)=false:=by rw[decide_eq_false_iff_not];exact h1
   subst e
   clear hR h1 h2
   go_enter Tryz.func162,Tryz.ntmps162
   go_wp2_with fail
   go_returns
   exact⟨rfl,(Ext.refl w).alloc _⟩
theorem isNowhere_c(x:Jp)(w:World):Calls Tryz.prog 166 #[jm x] w fun e w'=>e= .returned (.bool (nowJ x))∧Ext w w':=by
 obtain⟨p,n⟩:=x
 have hc:=hide (fun w=>isInstant_c p w)
 obtain⟨R,hR⟩:∃R,R=nowJ (p,n):=⟨_,rfl⟩
 rw[←hR]
 unfold nowJ at hR
 cases h:instB p
 ·rw[h] at hc
  by_cases h0:p=1125899906842624
  ·subst h0
   have e:R=false:=by rw[hR,decide_eq_false_iff_not];simp only;omega
   subst e
   clear hR h
   go_enter Tryz.func166,Tryz.ntmps166
   go_wp2_with (go_at_call 161;(with_reducible refine seq_gw (hc.out _) ?_);intro g)
   go_returns
   exact⟨rfl,((Ext.refl w).alloc _).trans g.grown⟩
  ·have e:R=true:=by rw[hR,decide_eq_true_iff];have:=inst_no h;simp only;omega
   have h1:(p != 1125899906842624)=true:=by simp[h0]
   subst e
   clear hR h h0
   go_enter Tryz.func166,Tryz.ntmps166
   go_wp2_with (go_at_call 161;(with_reducible refine seq_gw (hc.out _) ?_);intro g)
   go_returns
   exact⟨rfl,((Ext.refl w).alloc _).trans g.grown⟩
 ·have e:R=false:=by rw[hR,decide_eq_false_iff_not];have:=inst_yes h;simp only;omega
  rw[h] at hc
  subst e
  clear hR h
  go_enter Tryz.func166,Tryz.ntmps166
  go_wp2_with (go_at_call 161;(with_reducible refine seq_gw (hc.out _) ?_);intro g)
  go_returns
  exact⟨rfl,((Ext.refl w).alloc _).trans g.grown⟩
theorem hasNoEffect_c(x:Jp)(w:World):Calls Tryz.prog 172 #[jm x] w fun e w'=>e= .returned (.bool (dropJ x))∧Ext w w':=by
 obtain⟨p,n⟩:=x
 obtain⟨R,hR⟩:∃R,R=dropJ (p,n):=⟨_,rfl⟩
 rw[←hR]
 unfold dropJ at hR
 by_cases h1:n=0
 ·subst h1
  have e:R=true:=by rw[hR,decide_eq_true_iff];exact .inl rfl
  subst e
  clear hR
  go_enter Tryz.func172,Tryz.ntmps172
  go_wp2_with fail
  go_returns
  exact⟨rfl,(Ext.refl w).alloc _⟩
 ·have h1':(n == 0)=false:=by simp[h1]
  by_cases h2:p=1125899906842624
  ·subst h2
   have e:R=true:=by rw[hR,decide_eq_true_iff];exact .inr rfl
   subst e
   clear hR h1
   go_enter Tryz.func172,Tryz.ntmps172
   go_wp2_with fail
   go_returns
   exact⟨rfl,(Ext.refl w).alloc _⟩
  ·have e:R=false:=by rw[hR,decide_eq_false_iff_not];simp only;omega
   have h2':(p == 1125899906842624)=false:=by simp[h2]
   subst e
   clear hR h1 h2
   go_enter Tryz.func172,Tryz.ntmps172
   go_wp2_with fail
   go_returns
   exact⟨rfl,(Ext.refl w).alloc _⟩
end Go.Proofs.YtajelkkiijdegaaGreat
namespace Go.Proofs.YtajelkkiijdegaaGreat
open Go.RowKit
abbrev ob(v:Value):List Nat:=v.ownBlock.toList
theorem own_fr{w w':World}{base e size n:Nat}{v:Value}{xs:List Value}{S:List Nat}(h:w.ownsRow base e size v n xs)(k:Fr S w w')(hS:∀x∈S,x<base):w'.ownsRow base e size v n xs:=by
 refine⟨h.1,?_⟩
 rcases h.2 with h2|⟨g,cap,cur,rfl,hb,hg,hr⟩
 ·exact .inl h2
 ·exact .inr ⟨g,cap,cur,rfl,hb,(k.block g (lt_of_block hg) (fun m=>by have:=hS g m;omega)).trans hg,hr⟩
theorem ob_ge{w:World}{base e size n:Nat}{v:Value}{xs:List Value}(h:w.ownsRow base e size v n xs):∀k∈ob v,base≤k∧k<w.heap.size:=by
 intro k hk
 have hk':v.ownBlock=some k:=by simpa [ob] using hk
 rcases h.2 with ⟨rfl,_⟩|⟨g,cap,cur,rfl,hb,hg,_⟩
 ·cases hk'
 ·have:k=g:=by simpa [Value.ownBlock] using hk'.symm
  subst this
  exact⟨hb,lt_of_block hg⟩
theorem fr_grown{w w':World}{v:Value}(h:w.grownBy w' v.ownBlock):Fr (ob v) w w' :=
 (Fr.refl (ob v) w).grown h (fun k hk=> .inl (by simp[ob,hk]))
end Go.Proofs.YtajelkkiijdegaaGreat
namespace Go.Proofs.YtajelkkiijdegaaGreat
open Go.RowKit
attribute [local go_sem] GW.cell GW.frozen In.eq_true In.le_true In.ne In.ne' In.ne_add In.ne_add' In.lt_add Upto.le_true Upto.le_add Upto.lt_add
abbrev Ve:=Value×Ed
def ec1(p:Ve):List Value:=[p.1, .int .i64 p.2.2.1, .int .i64 p.2.2.2]
def ec(L:List Ve):List Value:=L.flatMap ec1
theorem ec_length(L:List Ve):(ec L).length=L.length*3:=by
 induction L with
 |nil=>rfl
 |cons p r ih=>simp only[ec,ec1,List.flatMap_cons,List.length_append,List.length_cons,List.length_nil] at ih ⊢;omega
theorem ec_append(L M:List Ve):ec (L++M)=ec L++ec M:=by simp[ec]
theorem ec_cons(p:Ve)(L:List Ve):ec (p::L)=ec1 p++ec L:=by simp[ec]
theorem ec_drop:∀(L:List Ve) (n:Nat),(ec L).drop (n*3)=ec (L.drop n)
 |[],n=>by simp[ec]
 |p::L,0=>by simp
 |p::L,n+1=>by
  rw[ec_cons,show (n+1)*3=(ec1 p).length+n*3 by simp[ec1];omega,List.drop_append,List.drop_of_length_le (by omega),List.nil_append,Nat.add_sub_cancel_left,ec_drop L n,List.drop_succ_cons]
theorem ec_one{L:List Ve}(h:∀p∈L,p.1.oneCell'=true):∀u∈ec L,u.oneCell'=true:=by
 intro u hu
 simp only[ec,List.mem_flatMap,ec1] at hu
 obtain⟨p,hp,hu⟩:=hu
 simp at hu
 rcases hu with rfl|rfl|rfl
 ·exact h p hp
 ·rfl
 ·rfl
theorem ec_get:∀(L:List Ve) (i:Nat) (p:Ve),L[i]? = some p→∀j v,(ec1 p)[j]? = some v→(ec L)[i*3+j]? = some v
 |q::r,0,p,h,j,v,hv=>by
  simp at h;subst h
  have hj:j<(ec1 q).length:=(List.getElem?_eq_some_iff.1 hv).1
  rw[ec_cons,List.getElem?_append_left (by omega),show 0*3+j=j by omega];exact hv
 |q::r,i+1,p,h,j,v,hv=>by
  have:=ec_get r i p (by simpa using h) j v hv
  rw[ec_cons,show (i+1)*3+j=(ec1 q).length+(i*3+j) by simp[ec1];omega,List.getElem?_append_right (by omega),Nat.add_sub_cancel_left]
  exact this
abbrev eds(L:List Ve):List Ed:=L.map Prod.snd
def Ew(w:World)(S:List Nat)(v:Value)(L:List Ve):Prop:=Sl w S 3 v L.length (ec L)∧∀p∈L,Rw w S p.1 p.2.1
section
variable {w w':World} {S S':List Nat} {v:Value} {L:List Ve}
theorem Ew.ext(h:Ew w S v L)(k:Ext w w'):Ew w' S v L:=⟨Sl.ext h.1 k,fun p hp=>Sl.ext (h.2 p hp) k⟩
theorem Ew.fr(h:Ew w S v L)(k:Fr S' w w')(hs:∀b,b∈S'→b∈S):Ew w' S v L:=⟨Sl.fr h.1 k hs,fun p hp=>Sl.fr (h.2 p hp) k hs⟩
theorem Ew.less(h:Ew w S v L)(hs:∀b,b∈S'→b∈S):Ew w S' v L:=⟨Sl.less h.1 hs,fun p hp=>Sl.less (h.2 p hp) hs⟩
theorem row_one{r:List Vl}{u:Value}(h:Rw w S u r):u.oneCell'=true:=by obtain⟨A,cap,rfl,_⟩:=h;rfl
theorem Ew.one(h:Ew w S v L):∀u∈ec L,u.oneCell'=true:=ec_one fun p hp=>row_one (h.2 p hp)
theorem ew_form(h:Ew w S v L):∃A cap,v= .slice A L.length cap∧L.length≤cap∧cap≤maxLen ∧
 ∀(i:Nat) (p:Ve),L[i]? = some p→∃b o,A=some ⟨b,o,none⟩∧b∉S∧b<w.heap.size∧w.cell? ⟨b,o+i*3,none⟩=some p.1∧w.cell? ⟨b,o+i*3+1,none⟩=some (.int .i64 p.2.2.1)∧w.cell? ⟨b,o+i*3+1+1,none⟩=some (.int .i64 p.2.2.2):=by
 obtain⟨A,cap,rfl,h1,h2,h3,h4⟩:=h.1
 refine⟨A,cap,rfl,h1,h2,fun i p hp=>?_⟩
 have hg:=ec_get L i p hp
 rcases h4 with h4|⟨b,o,rfl,hb,hc⟩
 ·have:=hg 0 _ rfl;rw[h4] at this;cases this
 ·have c0:=hc _ _ (hg 0 _ rfl)
  have c1:=hc _ _ (hg 1 _ rfl)
  have c2:=hc _ _ (hg 2 _ rfl)
  exact⟨b,o,rfl,hb,block_lt_of_cell c0,c0,c1,c2⟩
end
abbrev em(v:Value)(x:Jp):Value:= .agg #[v, .int .i64 x.1, .int .i64 x.2]
theorem rw_val{w:World}{S:List Nat}{v:Value}{l:List Vl}(h:Rw w S v l):∃A cap,v= .slice A l.length cap:=by obtain⟨A,cap,e,_⟩:=h;exact⟨A,cap,e⟩
theorem hasNoRow_c(q:List Vl)(j:Jp)(v:Value)(w:World)(h:Rw w [] v q):Calls Tryz.prog 111 #[em v j] w fun e w'=>e= .returned (.bool (!mayR q))∧Ext w w':=by
 obtain⟨jp,jn⟩:=j
 have h1:=hide (fun w' (hX:Ext w w')=>rowMay_c q v w' (Sl.ext h hX))
 obtain⟨A,cap,rfl⟩:=rw_val h
 have hX0:=hide ((Ext.refl w).alloc (.cells #[.slice A q.length cap, .int .i64 jp, .int .i64 jn] 131))
 generalize mayR q=m at *
 clear h
 go_enter Tryz.func111,Tryz.ntmps111
 go_wp2_with (go_at_call 55;(with_reducible refine seq_gw (h1.out _ hX0.out) ?_);intro g)
 go_returns
 exact⟨rfl,hX0.out.trans g.grown⟩
theorem isTooE_c(q:List Vl)(j:Jp)(v:Value)(w:World)(h:Rw w [] v q):Calls Tryz.prog 112 #[em v j] w fun e w'=>e= .returned (.bool (tooJ j))∧Ext w w':=by
 obtain⟨jp,jn⟩:=j
 obtain⟨A,cap,rfl⟩:=rw_val h
 clear h
 obtain⟨R,hR⟩:∃R,R=tooJ (jp,jn):=⟨_,rfl⟩
 rw[←hR]
 unfold tooJ at hR
 simp only at hR
 by_cases h1:1048576<jn
 ·have hf:=hide (show R=true by rw[hR];simp;omega)
  clear hR
  go_enter Tryz.func112,Tryz.ntmps112
  go_wp2_with fail
  go_returns
  exact⟨by rw[hf.out];first|rfl|simp,(Ext.refl w).alloc _⟩
 ·by_cases h2:jn < -1048576
  ·have hf:=hide (show R=true by rw[hR];simp;omega)
   clear hR
   go_enter Tryz.func112,Tryz.ntmps112
   go_wp2_with fail
   go_returns
   exact⟨by rw[hf.out];first|rfl|simp[h2],(Ext.refl w).alloc _⟩
  ·have hf:=hide (show R=false by rw[hR];simp;omega)
   clear hR
   go_enter Tryz.func112,Tryz.ntmps112
   go_wp2_with fail
   go_returns
   exact⟨by rw[hf.out];first|rfl|simp[h2],(Ext.refl w).alloc _⟩
theorem isNowE_c(q:List Vl)(j:Jp)(v:Value)(w:World)(h:Rw w [] v q):Calls Tryz.prog 113 #[em v j] w fun e w'=>e= .returned (.bool (nowJ j))∧Ext w w':=by
 obtain⟨jp,jn⟩:=j
 obtain⟨A,cap,rfl⟩:=rw_val h
 clear h
 obtain⟨R,hR⟩:∃R,R=nowJ (jp,jn):=⟨_,rfl⟩
 rw[←hR]
 unfold nowJ at hR
 simp only at hR
 by_cases h1:jp < -1
 ·have hf:=hide (show R=true by rw[hR];simp;omega)
  clear hR
  go_enter Tryz.func113,Tryz.ntmps113
  go_wp2_with fail
  go_returns
  exact⟨by rw[hf.out];first|rfl|simp,(Ext.refl w).alloc _⟩
 ·by_cases h2:1125899906842624<jp
  ·have hf:=hide (show R=true by rw[hR];simp;omega)
   clear hR
   go_enter Tryz.func113,Tryz.ntmps113
   go_wp2_with fail
   go_returns
   exact⟨by rw[hf.out];first|rfl|simp[h2],(Ext.refl w).alloc _⟩
  ·have hf:=hide (show R=false by rw[hR];simp;omega)
   clear hR
   go_enter Tryz.func113,Tryz.ntmps113
   go_wp2_with fail
   go_returns
   exact⟨by rw[hf.out];first|rfl|simp[h2],(Ext.refl w).alloc _⟩
theorem byRow_c(q:List Vl)(j:Jp)(v:Value)(r:List Vl)(k:Jp)(u:Value)(w:World)(hq:Rw w [] v q)(hr:Rw w [] u r):Calls Tryz.prog 116 #[em v j,em u k] w fun e w'=>e= .returned (.int .i64 (cmpR q r))∧Ext w w':=by
 obtain⟨jp,jn⟩:=j
 obtain⟨kp,kn⟩:=k
 have h1:=hide (fun w' (hX:Ext w w')=>rowCompare_c (Sl.ext hq hX) (Sl.ext hr hX))
 obtain⟨A,cap,rfl⟩:=rw_val hq
 obtain⟨B,cap2,rfl⟩:=rw_val hr
 have hX0:=hide (((Ext.refl w).alloc (.cells #[.slice A q.length cap, .int .i64 jp, .int .i64 jn] 131)).alloc (.cells #[.slice B r.length cap2, .int .i64 kp, .int .i64 kn] 131))
 generalize cmpR q r=m at *
 clear hq hr
 go_enter Tryz.func116,Tryz.ntmps116
 go_wp2_with (go_at_call 137;(with_reducible refine seq_gw (h1.out _ hX0.out) ?_);intro g)
 go_returns
 exact⟨rfl,hX0.out.trans g.grown⟩
theorem esame_c(q:List Vl)(j:Jp)(v:Value)(r:List Vl)(k:Jp)(u:Value)(w:World)(hq:Rw w [] v q)(hr:Rw w [] u r):Calls Tryz.prog 75 #[em v j,em u k] w fun e w'=>e= .returned (.bool (decide ((q,j)=(r,k))))∧Ext w w':=by
 obtain⟨jp,jn⟩:=j
 obtain⟨kp,kn⟩:=k
 have h1:=hide (fun w' (hX:Ext w w')=>rowSame_c (Sl.ext hq hX) (Sl.ext hr hX))
 obtain⟨A,cap,rfl⟩:=rw_val hq
 obtain⟨B,cap2,rfl⟩:=rw_val hr
 have hX0:=hide (((Ext.refl w).alloc (.cells #[.slice A q.length cap, .int .i64 jp, .int .i64 jn] 131)).alloc (.cells #[.slice B r.length cap2, .int .i64 kp, .int .i64 kn] 131))
 obtain⟨R,hR⟩:∃R,R=decide ((q,(jp,jn))=(r,(kp,kn))):=⟨_,rfl⟩
 rw[←hR]
 by_cases e1:jp=kp
 ·by_cases e2:jn=kn
  ·subst e1;subst e2
   have hf:=hide (show R=decide (q=r) by rw[hR];simp)
   clear hR hq hr
   generalize decide (q=r)=m at *
   go_enter Tryz.func75,Tryz.ntmps75
   go_wp2_with (go_at_call 133;(with_reducible refine seq_gw (h1.out _ hX0.out) ?_);intro g)
   go_returns
   exact⟨by rw[hf.out];first|rfl|simp,hX0.out.trans g.grown⟩
  ·subst e1
   have hf:=hide (show R=false by rw[hR];simp[e2])
   have b2:(jn == kn)=false:=by rw[beq_eq_false_iff_ne];exact e2
   clear hR hq hr h1
   replace e2:=hide e2
   go_enter Tryz.func75,Tryz.ntmps75
   go_wp2_with fail
   go_returns
   exact⟨by rw[hf.out];first|rfl|simp[b2],hX0.out⟩
 ·have hf:=hide (show R=false by rw[hR];simp[e1])
  have b1:(jp == kp)=false:=by rw[beq_eq_false_iff_ne];exact e1
  clear hR hq hr h1
  replace e1:=hide e1
  go_enter Tryz.func75,Tryz.ntmps75
  go_wp2_with fail
  go_returns
  exact⟨by rw[hf.out];first|rfl|simp[b1],hX0.out⟩
end Go.Proofs.YtajelkkiijdegaaGreat
