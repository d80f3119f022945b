/-
  A helper of ours: no claim of its own. Layer 14 (past): a past in memory, whole; the clock moved on.
-/
import Derived.Test.YtajelkkiijdegaaGreatSchC
import Derived.Test.YtajelkkiijdegaaGreatReg
import Derived.Test.YtajelkkiijdegaaGreatEdgA
import Derived.Lib.AppendZerosOnto
import Derived.Lib.LazyBuf
import Derived.WalkLawsBesides
import Derived.Test.YtajelkkiijdegaaGreatStepR
import Derived.Test.YtajelkkiijdegaaGreatSchS
import Derived.Test.YtajelkkiijdegaaGreatFolXH
set_option linter.unusedVariables false
set_option linter.unusedSimpArgs false
set_option linter.unusedSectionVars false
set_option maxHeartbeats 64000000
set_option maxRecDepth 100000
namespace Go.Proofs.YtajelkkiijdegaaGreat
open Go.RowKit
attribute [local go_sem] GW.cell GW.frozen In.eq_true In.le_true In.ne In.ne' In.ne_add In.ne_add' In.lt_add Upto.le_true Upto.le_add Upto.lt_add Oper.semAt_some wide_depth wide_fn
theorem index_c(l:List Cl)(n:ByteArray)(v:Value)(w:World)(hC:Cw w [] v l):Calls Tryz.prog 141 #[v, .string n] w fun e w'=>e= .returned (.int .i64 (ixC l n))∧Ext w w':=by
 have hf:=hide (schFirst_c l n v (w.alloc (.cells #[.string n] 9)) (Sl.ext hC ((Ext.refl w).alloc _)) w.heap.size (Ob.new w _ [.string n]))
 obtain⟨A,cap,rfl,hlc,hlm, -⟩:=cw_form hC
 generalize ixC l n=R at *
 clear hC
 go_enter Tryz.func141,Tryz.ntmps141
 go_wp2_with (go_at_call 195;(with_reducible refine seq_gw hf.out ?_);intro g)
 go_returns
 exact⟨rfl,((Ext.refl w).alloc _).trans g.grown⟩
theorem hasTwice_c(l:List Cl)(v:Value)(w:World)(hC:Cw w [] v l):Calls Tryz.prog 82 #[v] w fun e w'=>e= .returned (.bool (!apartB l))∧Ext w w':=by
 obtain⟨A,cap,rfl,hlc,hlm, -⟩:=cw_form hC
 unfold maxLen at hlm
 obtain⟨R,hR⟩:∃R,R= !apartB l:=⟨_,rfl⟩
 rw[←hR]
 have hR1:Hid (Apart l l.length→R=false):=fun h=>by rw[hR,apartB_true.2 h];rfl
 have hR2:Hid (¬Apart l l.length→R=true):=fun h=>by rw[hR,Bool.not_eq_true',←Bool.not_eq_true];exact fun e=>h (apartB_true.1 e)
 clear hR
 refine calls_marks Tryz.func82 rfl ?_
 simp only[Tryz.ntmps82,List.size_toArray,List.length_cons,List.length_nil,Nat.reduceAdd,Nat.reduceSub,Array.replicate_succ,Array.replicate_zero,List.push_toArray,List.append_toArray,List.nil_append,List.cons_append]
 obtain⟨Wb,hWb⟩:∃Wb,Wb=(w.alloc (.cells #[.slice A l.length cap] 23)).alloc (.cells #[.bool false] 4):=⟨_,rfl⟩
 have hX0:Ext w Wb:=by rw[hWb];exact ((Ext.refl w).alloc _).alloc _
 have ob0:Ob Wb w.heap.size 23 [.slice A l.length cap]:=by rw[hWb];exact (Ob.new w _ [.slice A l.length cap]).alloc _
 have ob1:Ob Wb (w.heap.size+1) 4 [.bool false]:=by rw[hWb];have:=Ob.new (w.alloc (.cells #[.slice A l.length cap] 23)) 4 [.bool false];rwa [World.size_alloc] at this
 have hWs:Wb.heap.size=w.heap.size+2:=by rw[hWb];simp
 replace hX0:=hide hX0
 replace hC:=hide hC
 go_wp2_with (go_at_call 140;refine (names_c _ _ _ _).mono ?_;rintro ee w1 ⟨b,rfl,hb,hle,hX1⟩)
 rw[←hWb] at hle hX1
 clear hWb
 have hX2:=hide (hX0.out.trans hX1)
 have hz2:=hX2.out.size
 have hz1:=hX1.size
 refine wp_range (xs:=l.zipIdx) rfl (enters_of Tryz.func194 (by kernel_rfl) rfl) (names_seq l _ w w1 b hC.out hX2.out hb) (Ext.refl _) hX2.out.size (by rintro x vs W rfl;rfl) (fun x vs=>Stab.pure _)
  (fun k W=>(Ob W w.heap.size 23 [.slice A l.length cap]∧Ob W (w.heap.size+1) 4 [.bool false])∧(Ext w W∧Apart l k))
  (fun c k W=>((c= .ret∧¬Apart l l.length)∧Ob W (w.heap.size+1) 4 [.bool true])∧Ext w W)
  (fun k=>((Stab.ob _ _ _).and (Stab.ob _ _ _)).and ((Stab.of_ext hz2).and (Stab.pure _)))
  (fun c k=>((Stab.pure _).and (Stab.ob _ _ _)).and (Stab.of_ext hz2))
  ⟨⟨ob0.ext hX1,ob1.ext hX1⟩,hX2.out,apart_zero l⟩
  (fun k x vs a' _=>a'={ tmps:= #[.slice A l.length cap, .pointer (some ⟨w.heap.size,0,none⟩), .pointer (some ⟨w.heap.size+1,0,none⟩), .int .i64 x.2, .string x.1.1, .slice A l.length cap, .func (.func 194) #[] #[.pointer (some ⟨b,0,none⟩)], .int .i64 x.2, .string x.1.1,undef,undef,undef,undef,undef],defers:=[]})
  (fun k x vs a'=>Stab.pure _) ?assign ?body ?done ?stop
 case assign =>
  rintro L k x vs W K _ rfl hK
  gi_wp2
  exact hK _ _ (Ext.refl _) rfl
 case body =>
  rintro L k x vs a' W hx ⟨⟨o0,o1⟩,hXw,hno⟩ rfl rfl
  rw[List.getElem?_zipIdx] at hx
  obtain⟨c,hc,rfl⟩:∃c,l[k]? = some c∧(c,k)=x:=by
   cases h:l[k]? with
   |none=>rw[h] at hx;cases hx
   |some c=>rw[h] at hx;exact⟨c,rfl,by simpa using hx⟩
  have q0:=o0.cell 0 rfl
  have q1:=o1.cell 0 rfl
  have hfr:=o1.free 0
  have hcall:=hide (index_c l c.1 _ W (Sl.ext hC.out hXw))
  have hzW:=hXw.size
  have hmem:∀y∈[w.heap.size+1],∃T vs,Ob W y T vs:=by intro y hy;simp at hy;subst hy;exact⟨_,_,o1⟩
  replace hmem:=hide hmem
  have hkl:=(List.getElem?_eq_some_iff.1 hc).1
  obtain⟨j,hj,hjk,hiff⟩:=ixC_le hc
  rw[hj] at hcall
  have hltW:=o1.lt
  haveI:In (w.heap.size+1) W:=⟨hltW⟩
  haveI:In w.heap.size W:=⟨o0.lt⟩
  by_cases he:j<k
  ·have hna:Hid (¬Apart l l.length):=fun hA=>by have:=hiff.1 (hA k hkl c hc);omega
   replace hno:=hide hno
   have heI:(j:Int)<k:=by omega
   obtain⟨cn,ck⟩:=c
   clear hc hx hiff hj
   gi_wp2_with (gi_at_call 141;(with_reducible refine seq_gi hcall.out ?_);intro g)
   exact⟨keeps_fr (S:=[w.heap.size+1]) ((Fr.of_ext g.grown).setCell _ _ (.inl (by simp))) hmem.out,⟨⟨rfl,hna.out⟩,(o1.ext g.grown).set 0 _⟩,(hXw.trans g.grown).setCell (p:=⟨w.heap.size+1,0,none⟩) (by simp) _⟩
  ·have hna:Hid (Apart l (k+1)):=apart_step hno hc (hiff.2 (by omega))
   replace hno:=hide hno
   have heI:(k:Int)≤j:=by omega
   obtain⟨cn,ck⟩:=c
   clear hc hx hiff hj
   gi_wp2_with (gi_at_call 141;(with_reducible refine seq_gi hcall.out ?_);intro g)
   exact⟨keeps_ext g.grown,below_fr (S:=[]) (Fr.of_ext g.grown) hzW (by simp),⟨o0.ext g.grown,o1.ext g.grown⟩,hXw.trans g.grown,hna.out⟩
 case done =>
  rintro D W hD ⟨⟨o0,o1⟩,hXw,hno⟩ hK
  rw[List.length_zipIdx] at hno
  have hRf:=hide (hR1.out hno)
  have q1:=o1.cell 0 rfl
  have hfr:=o1.free 0
  clear hno
  go_wp2
  have hK2:=(KeepsOthers.setCell W ⟨w.heap.size+1,0,none⟩ (.bool false)).same D _ hK rfl
  have o2:Ob (W.setCell ⟨w.heap.size+1,0,none⟩ (.bool false)) (w.heap.size+1) 4 [.bool false]:=o1.set 0 _
  have q2:=(ob_put (o':= .deferred none) hK2 rfl o2).cell 0 rfl
  refine ret_mark hK2 (v:= .bool false) ?_ ⟨by rw[hRf.out],put_ext (hXw.setCell (p:=⟨w.heap.size+1,0,none⟩) (by simp) _) (by omega) _⟩
  simp[results,Tryz.f82,go_sem,q2]
 case stop =>
  rintro D c k W hD hk ⟨⟨⟨rfl,hna⟩,o1⟩,hXw⟩ hK
  have hRf:=hide (hR2.out hna)
  go_wp2
  have q2:=(ob_put (o':= .deferred none) hK rfl o1).cell 0 rfl
  refine ret_mark hK (v:= .bool true) ?_ ⟨by rw[hRf.out],put_ext hXw (by omega) _⟩
  simp[results,Tryz.f82,go_sem,q2]
theorem isNoneC_c(c:Cl)(w:World):Calls Tryz.prog 81 #[.agg #[.string c.1, .int .i64 c.2]] w fun e w'=>e= .returned (.bool (!okC c))∧Ext w w':=by
 obtain⟨n,k⟩:=c
 have hn:=hide (fun w=>name_c n w)
 obtain⟨R,hR⟩:∃R,R= !okC (n,k):=⟨_,rfl⟩
 rw[←hR]
 unfold okC at hR
 simp only at hR
 generalize nameB n=m at *
 by_cases h1:k=1
 ·subst h1
  rw[decide_eq_true (.inl rfl),Bool.true_and] at hR
  replace hR:=hide hR
  go_enter Tryz.func81,Tryz.ntmps81
  go_wp2_with (go_at_call 139;(with_reducible refine seq_gw (hn.out _) ?_);intro g)
  go_returns
  exact⟨by rw[hR.out];first|rfl|simp,((Ext.refl w).alloc _).trans g.grown⟩
 by_cases h2:k=2
 ·subst h2
  rw[decide_eq_true (.inr rfl),Bool.true_and] at hR
  replace hR:=hide hR
  clear h1
  go_enter Tryz.func81,Tryz.ntmps81
  go_wp2_with (go_at_call 139;(with_reducible refine seq_gw (hn.out _) ?_);intro g)
  go_returns
  exact⟨by rw[hR.out];first|rfl|simp,((Ext.refl w).alloc _).trans g.grown⟩
 ·rw[decide_eq_false (by omega),Bool.false_and] at hR
  replace hR:=hide hR
  have b1:(k == 1)=false:=by rw[beq_eq_false_iff_ne];exact h1
  have b2:(k == 2)=false:=by rw[beq_eq_false_iff_ne];exact h2
  clear hn
  go_enter Tryz.func81,Tryz.ntmps81
  go_wp2_with fail
  go_returns
  exact⟨by rw[hR.out];first|rfl|simp,(Ext.refl w).alloc _⟩
theorem indexFuncC_c(l:List Cl)(v:Value)(w:World)(h:Cw w [] v l):Calls Tryz.prog 138 #[v, .func (.func 81) #[] #[]] w fun e w'=>e= .returned (.int .i64 (idxP okC 0 l))∧Ext w w':=by
 obtain⟨A,cap,rfl,hl,hm,hat⟩:=cw_form h
 unfold maxLen at hm
 replace hat:=hide hat
 clear h
 obtain⟨R,hR⟩:∃R,R=idxP okC 0 l:=⟨_,rfl⟩
 rw[←hR]
 replace hR:=hide hR
 go_enter Tryz.func138,Tryz.ntmps138
 go_wp2_with fail
 go_loopg [8] l.length (fun gh i wr=>∃(k:Nat),i= .int .i64 k∧k+gh=l.length∧Hid (R=idxP okC k (l.drop k))∧Ext w wr)
 case atStart=>exact⟨0,rfl,by omega,by simpa using hR,Ext.refl w⟩
 case round =>
  obtain⟨k,rfl,hk,hRk,hX⟩:=hrel
  clear hR
  by_cases hlt:k<l.length
  ·obtain⟨x,hx⟩:∃x,l[k]? = some x:=⟨_,List.getElem?_eq_getElem hlt⟩
   obtain⟨b,o,rfl, -,hb,c0,c1⟩:=hat.out k x hx
   have k0:=cell_later hX c0
   have k1:=cell_later hX c1
   have hbr:b<wr.heap.size:=block_lt_of_cell k0
   have hin:=hide (fun w=>isNoneC_c x w)
   have hR2:=hRk.out
   rw[drop_cons hx] at hR2
   clear c0 c1 hat hx
   cases hmx:okC x
   ·rw[hmx] at hin
    rw[idxP_no hmx] at hR2
    replace hR2:=hide hR2
    replace hmx:=hide hmx
    obtain⟨xn,xk⟩:=x
    go_wp2_with (go_at_call 81;(with_reducible refine seq_gw (hin.out _) ?_);intro g)
    go_returns
    exact⟨by rw[hR2.out];rfl,hX.trans g.grown⟩
   ·rw[hmx] at hin
    rw[idxP_yes hmx] at hR2
    replace hR2:=hide hR2
    replace hmx:=hide hmx
    obtain⟨xn,xk⟩:=x
    go_wp2_with (go_at_call 81;(with_reducible refine seq_gw (hin.out _) ?_);intro g)
    go_roundg (l.length-(k+1))
    case measure=>omega
    case rel=>exact⟨k+1,by go_num,by omega,hR2,hX.trans g.grown⟩
  ·have hk':k=l.length:=by omega
   have hge:(l.length:Int)≤k:=by omega
   have hR2:=hRk.out
   rw[hk',List.drop_length] at hR2
   replace hR2:=hide hR2
   replace hk':=hide hk'
   go_wp2_with fail
   go_returns
   exact⟨by rw[hR2.out];rfl,hX⟩
theorem containsFuncC_c(l:List Cl)(v:Value)(w:World)(h:Cw w [] v l):Calls Tryz.prog 80 #[v, .func (.func 81) #[] #[]] w fun e w'=>e= .returned (.bool (!l.all okC))∧Ext w w':=by
 have hc:=hide (indexFuncC_c l v w h)
 have e:=hide (idxP_ge okC 0 l)
 generalize idxP okC 0 l=z at *
 generalize l.all okC=m at *
 clear h
 go_enter Tryz.func80,Tryz.ntmps80
 go_wp2_with (go_at_call 138;(with_reducible refine seq_gw hc.out ?_);intro g)
 go_returns
 exact⟨by rw[←e.out];rfl,g.grown⟩
theorem mayS_c(l:List Cl)(v:Value)(w:World)(h:Cw w [] v l):Calls Tryz.prog 36 #[v] w fun e w'=>e= .returned (.bool (mayS l))∧Ext w w':=by
 have hc:=hide (containsFuncC_c l v w h)
 have ht:=hide (fun w' (hX:Ext w w')=>hasTwice_c l v w' (Sl.ext h hX))
 obtain⟨A,cap,rfl,hl,hm, -⟩:=cw_form h
 clear h
 by_cases h0:l.length=0
 ·have e:mayS l=false:=by unfold mayS;rw[decide_eq_false (by omega),Bool.false_and]
  rw[e]
  have h0I:(l.length:Int)=0:=by omega
  clear e hc ht
  replace h0:=hide h0
  go_enter Tryz.func36,Tryz.ntmps36
  go_wp2_with fail
  go_returns
  exact⟨rfl,Ext.refl w⟩
 have h0I:((l.length:Int) == 0)=false:=by rw[beq_eq_false_iff_ne];omega
 by_cases h8:l.length≤8
 ·have e:mayS l=(l.all okC && apartB l):=by unfold mayS;rw[decide_eq_true ⟨by omega,h8⟩,Bool.true_and]
  rw[e]
  have h8':(l.length:Int)≤8:=by omega
  clear e h0
  generalize apartB l=ap at *
  cases ha:l.all okC
  ·rw[ha] at hc
   clear ha ht
   go_enter Tryz.func36,Tryz.ntmps36
   go_wp2_with (go_at_call 80;(with_reducible refine seq_gw hc.out ?_);intro g)
   go_returns
   exact⟨by first|rfl|simp,g.grown⟩
  ·rw[ha] at hc
   clear ha
   go_enter Tryz.func36,Tryz.ntmps36
   go_wp2_with (first|(go_at_call 80;(with_reducible refine seq_gw hc.out ?_);intro g)|(go_at_call 82;(with_reducible refine seq_gw' (ht.out _ g.grown) ?_);intro g2))
   go_returns
   exact⟨by first|rfl|simp,g2.grown⟩
 ·have e:mayS l=false:=by unfold mayS;rw[decide_eq_false (by omega),Bool.false_and]
  rw[e]
  have h8':(8:Int)<l.length:=by omega
  clear e hc ht
  go_enter Tryz.func36,Tryz.ntmps36
  go_wp2_with fail
  go_returns
  exact⟨rfl,Ext.refl w⟩
end Go.Proofs.YtajelkkiijdegaaGreat
namespace Go.Proofs.YtajelkkiijdegaaGreat
open Go.RowKit
attribute [local go_sem] GW.cell GW.frozen In.eq_true In.le_true In.ne In.ne' In.ne_add In.ne_add' In.lt_add Upto.le_true Upto.le_add Upto.lt_add
theorem neq_col(k k':Int)(s t:ByteArray)(w:World):(binOp .neq 87 (.agg #[.string s, .int .i64 k]) (.agg #[.string t, .int .i64 k'])).run Tryz.prog w= .ok (.bool (!(s.toList == t.toList && k == k'))) w:=by
 by_cases h1:k=k'<;>by_cases h3:s.toList=t.toList<;>simp[go_sem,h1,h3]
theorem neqc_same(s:ByteArray)(k:Int)(w:World):(binOp .neq 87 (.agg #[.string s, .int .i64 k]) (.agg #[.string s, .int .i64 k])).run Tryz.prog w= .ok (.bool false) w:=by
 rw[neq_col];simp
theorem neqc_other{k k':Int}{s t:ByteArray}(h:¬((s,k)=(t,k')))(w:World):(binOp .neq 87 (.agg #[.string s, .int .i64 k]) (.agg #[.string t, .int .i64 k'])).run Tryz.prog w= .ok (.bool true) w:=by
 rw[neq_col]
 congr 2
 rw[Bool.not_eq_true',←Bool.not_eq_true]
 intro h'
 simp only[Bool.and_eq_true,beq_iff_eq,toList_iff] at h'
 obtain⟨rfl,rfl⟩:=h'
 exact h rfl
theorem fits1_c(x:Cl)(y:Vl)(w:World):Calls Tryz.prog 57 #[.agg #[.string x.1, .int .i64 x.2], .agg #[.int .i64 y.1, .int .i64 y.2.1, .string y.2.2]] w fun e w'=>e= .returned (.bool (x.2 == y.1))∧Ext w w':=by
 obtain⟨xn,xk⟩:=x
 obtain⟨yk,yv,yn⟩:=y
 go_enter Tryz.func57,Tryz.ntmps57
 go_wp2_with fail
 go_returns
 exact⟨rfl,((Ext.refl w).alloc _).alloc _⟩
theorem refSameS_c{l:List Cl}{m:List Cl}{v u:Value}{w:World}(hl:Cw w [] v l)(hm:Cw w [] u m):Calls Tryz.prog 18 #[v,u] w fun e w'=>e= .returned (.bool (eqP (fun x y:Cl=>decide (x=y)) l m))∧Ext w w':=by
 obtain⟨A,cap,rfl,hlc,hlm,hat⟩:=cw_form hl
 obtain⟨B,cap2,rfl,hmc,hmm,hbt⟩:=cw_form hm
 unfold maxLen at hlm hmm
 clear hl hm
 replace hat:=hide hat
 replace hbt:=hide hbt
 obtain⟨R,hR⟩:∃R,R=eqP (fun x y:Cl=>decide (x=y)) l m:=⟨_,rfl⟩
 rw[←hR]
 by_cases hn:l.length=m.length
 ·replace hR:=hide hR
  obtain⟨n,hln⟩:∃n,n=l.length:=⟨_,rfl⟩
  have hmn:n=m.length:=by omega
  rw[←hln] at hlc ⊢
  rw[←hmn] at hmc ⊢
  have hlI:=hide hln
  have hmI:=hide hmn
  clear hn hln hmn
  go_enter Tryz.func18,Tryz.ntmps18
  go_wp2_with fail
  go_loopg [5] n (fun gh i wr=>∃(k:Nat),i= .int .i64 k∧k+gh=n∧Hid (R=eqP (fun x y:Cl=>decide (x=y)) (l.drop k) (m.drop k))∧Ext w wr)
  case atStart=>exact⟨0,rfl,by omega,hR,Ext.refl w⟩
  case round =>
   obtain⟨k,rfl,hk,hRk,hX⟩:=hrel
   clear hR
   by_cases hlt:k<n
   ·obtain⟨x,hx⟩:∃x,l[k]? = some x:=⟨_,List.getElem?_eq_getElem (by have:=hlI.out;omega)⟩
    obtain⟨y,hy⟩:∃y,m[k]? = some y:=⟨_,List.getElem?_eq_getElem (by have:=hmI.out;omega)⟩
    obtain⟨b,o,rfl, -,hb,c0,c1⟩:=hat.out k x hx
    obtain⟨b',o',rfl, -,hb',d0,d1⟩:=hbt.out k y hy
    have k0:=cell_later hX c0
    have k1:=cell_later hX c1
    have j0:=cell_later hX d0
    have j1:=cell_later hX d1
    have hbr:b<wr.heap.size:=block_lt_of_cell k0
    have hbr':b'<wr.heap.size:=block_lt_of_cell j0
    have hR2:=hRk.out
    rw[drop_cons hx,drop_cons hy] at hR2
    obtain⟨xn,xk⟩:=x
    obtain⟨yn,yk⟩:=y
    clear c0 c1 d0 d1 hat hbt hx hy hlI hmI hRk
    by_cases hxy:(xn,xk)=(yn,yk)
    ·rw[eqP_yes (p:=(fun x y:Cl=>decide (x=y))) (x:=(xn,xk)) (y:=(yn,yk)) (decide_eq_true hxy)] at hR2
     replace hR2:=hide hR2
     cases hxy
     have hns:=neqc_same xn xk
     go_wp2_with fail
     go_quiet (fail)
     go_wp2_with fail
     go_roundg (n-(k+1))
     case measure=>omega
     case rel=>exact⟨k+1,by go_num,by omega,hR2,hX.drewN _⟩
    ·rw[eqP_no (p:=(fun x y:Cl=>decide (x=y))) (x:=(xn,xk)) (y:=(yn,yk)) (decide_eq_false hxy)] at hR2
     replace hR2:=hide hR2
     have hns:=neqc_other hxy
     replace hxy:=hide hxy
     go_wp2_with fail
     go_quiet (fail)
     go_wp2_with fail
     go_returns
     exact⟨by rw[hR2.out];rfl,hX.drewN _⟩
   ·have hk':k=n:=by omega
    have hge:(n:Int)≤k:=by omega
    have hR2:=hRk.out
    rw[List.drop_eq_nil_of_le (by have:=hlI.out;omega),List.drop_eq_nil_of_le (by have:=hmI.out;omega)] at hR2
    replace hR2:R=true:=hR2
    replace hR2:=hide hR2
    replace hk':=hide hk'
    go_wp2_with fail
    go_returns
    exact⟨by rw[hR2.out];rfl,hX⟩
 ·have hR2:=hR.trans (eqP_len hn)
  replace hR2:=hide hR2
  have hnI:¬(l.length:Int)=m.length:=by omega
  clear hR hn
  go_enter Tryz.func18,Tryz.ntmps18
  go_wp2_with fail
  go_returns
  exact⟨by rw[hR2.out];rfl,Ext.refl w⟩
theorem equalFunc2_c{l:List Cl}{m:List Vl}{v u:Value}{w:World}(hl:Cw w [] v l)(hm:Rw w [] u m):Calls Tryz.prog 56 #[v,u, .func (.func 57) #[] #[]] w fun e w'=>e= .returned (.bool (eqP (fun (x:Cl) (y:Vl)=>x.2 == y.1) l m))∧Ext w w':=by
 obtain⟨A,cap,rfl,hlc,hlm,hat⟩:=cw_form hl
 obtain⟨B,cap2,rfl,hmc,hmm,hbt⟩:=rw_form hm
 unfold maxLen at hlm hmm
 clear hl hm
 replace hat:=hide hat
 replace hbt:=hide hbt
 obtain⟨R,hR⟩:∃R,R=eqP (fun (x:Cl) (y:Vl)=>x.2 == y.1) l m:=⟨_,rfl⟩
 rw[←hR]
 by_cases hn:l.length=m.length
 ·replace hR:=hide hR
  obtain⟨n,hln⟩:∃n,n=l.length:=⟨_,rfl⟩
  have hmn:n=m.length:=by omega
  rw[←hln] at hlc ⊢
  rw[←hmn] at hmc ⊢
  have hlI:=hide hln
  have hmI:=hide hmn
  clear hn hln hmn
  go_enter Tryz.func56,Tryz.ntmps56
  go_wp2_with fail
  go_loopg [17] n (fun gh i wr=>∃(k:Nat),i= .int .i64 k∧k+gh=n∧Hid (R=eqP (fun (x:Cl) (y:Vl)=>x.2 == y.1) (l.drop k) (m.drop k))∧Ext w wr)
  case atStart=>exact⟨0,rfl,by omega,hR,Ext.refl w⟩
  case round =>
   obtain⟨k,rfl,hk,hRk,hX⟩:=hrel
   clear hR
   by_cases hlt:k<n
   ·obtain⟨x,hx⟩:∃x,l[k]? = some x:=⟨_,List.getElem?_eq_getElem (by have:=hlI.out;omega)⟩
    obtain⟨y,hy⟩:∃y,m[k]? = some y:=⟨_,List.getElem?_eq_getElem (by have:=hmI.out;omega)⟩
    obtain⟨b,o,rfl, -,hb,c0,c1⟩:=hat.out k x hx
    obtain⟨b',o',rfl, -,hb',d0,d1,d2⟩:=hbt.out k y hy
    have k0:=cell_later hX c0
    have k1:=cell_later hX c1
    have j0:=cell_later hX d0
    have j1:=cell_later hX d1
    have j2:=cell_later hX d2
    have hbr:b<wr.heap.size:=block_lt_of_cell k0
    have hbr':b'<wr.heap.size:=block_lt_of_cell j0
    have hR2:=hRk.out
    rw[drop_cons hx,drop_cons hy] at hR2
    obtain⟨xn,xk⟩:=x
    obtain⟨yk,yv,yn⟩:=y
    clear c0 c1 d0 d1 d2 hat hbt hx hy hlI hmI hRk
    have hq:=fun w=>fits1_c (xn,xk) (yk,yv,yn) w
    simp only at hq
    replace hq:=hide hq
    cases hp:(xk == yk)
    ·rw[eqP_no (p:=(fun (x:Cl) (y:Vl)=>x.2 == y.1)) (x:=(xn,xk)) (y:=(yk,yv,yn)) hp] at hR2
     rw[hp] at hq
     replace hR2:=hide hR2
     replace hp:=hide hp
     go_wp2_with (go_at_call 57;(with_reducible refine seq_gw (hq.out _) ?_);intro g)
     go_returns
     exact⟨by rw[hR2.out];rfl,((hX.alloc _).alloc _).trans g.grown⟩
    ·rw[eqP_yes (p:=(fun (x:Cl) (y:Vl)=>x.2 == y.1)) (x:=(xn,xk)) (y:=(yk,yv,yn)) hp] at hR2
     rw[hp] at hq
     replace hR2:=hide hR2
     replace hp:=hide hp
     go_wp2_with (go_at_call 57;(with_reducible refine seq_gw (hq.out _) ?_);intro g)
     go_roundg (n-(k+1))
     case measure=>omega
     case rel=>exact⟨k+1,by go_num,by omega,hR2,((hX.alloc _).alloc _).trans g.grown⟩
   ·have hk':k=n:=by omega
    have hge:(n:Int)≤k:=by omega
    have hR2:=hRk.out
    rw[List.drop_eq_nil_of_le (by have:=hlI.out;omega),List.drop_eq_nil_of_le (by have:=hmI.out;omega)] at hR2
    replace hR2:R=true:=hR2
    replace hR2:=hide hR2
    replace hk':=hide hk'
    go_wp2_with fail
    go_returns
    exact⟨by rw[hR2.out];rfl,hX⟩
 ·have hR2:=hR.trans (eqP_len hn)
  replace hR2:=hide hR2
  have hnI:¬(l.length:Int)=m.length:=by omega
  clear hR hn
  go_enter Tryz.func56,Tryz.ntmps56
  go_wp2_with fail
  go_returns
  exact⟨by rw[hR2.out];rfl,Ext.refl w⟩
def fitsS(l:List Cl)(r:List Vl):Bool:=mayS l && (mayR r && eqP (fun (x:Cl) (y:Vl)=>x.2 == y.1) l r)
theorem fitsS_c{l:List Cl}{m:List Vl}{v u:Value}{w:World}(hl:Cw w [] v l)(hm:Rw w [] u m):Calls Tryz.prog 27 #[v,u] w fun e w'=>e= .returned (.bool (fitsS l m))∧Ext w w':=by
 have hl':=hl
 have hm':=hm
 have h1:=hide (mayS_c l v w hl)
 have h2:=hide (fun w' (hX:Ext w w')=>rowMay_c m u w' (Sl.ext hm hX))
 obtain⟨A,cap,rfl,hlc,hlm, -⟩:=cw_form hl
 obtain⟨B,cap2,rfl,hmc,hmm, -⟩:=rw_form hm
 unfold fitsS
 cases ha:mayS l
 ·rw[ha] at h1
  rw[Bool.false_and]
  clear ha hl hm hl' hm' h2
  go_enter Tryz.func27,Tryz.ntmps27
  go_wp2_with (go_at_call 36;(with_reducible refine seq_gw h1.out ?_);intro g)
  go_returns
  exact⟨rfl,g.grown⟩
 cases hb:mayR m
 ·rw[ha] at h1
  rw[hb] at h2
  rw[Bool.false_and,Bool.and_false]
  clear ha hb hl hm hl' hm'
  go_enter Tryz.func27,Tryz.ntmps27
  go_wp2_with (first|(go_at_call 36;(with_reducible refine seq_gw h1.out ?_);intro g)|(go_at_call 55;(with_reducible refine seq_gw' (h2.out _ g.grown) ?_);intro g2))
  go_returns
  exact⟨rfl,g2.grown⟩
 rw[Bool.true_and,Bool.true_and]
 have he:=hide (fun w' (hX:Ext w w')=>equalFunc2_c (Sl.ext hl' hX) (Sl.ext hm' hX))
 rw[ha] at h1
 rw[hb] at h2
 generalize eqP (fun (x:Cl) (y:Vl)=>x.2 == y.1) l m=R at *
 clear ha hb hl hm hl' hm'
 go_enter Tryz.func27,Tryz.ntmps27
 go_wp2_with (first|(go_at_call 36;(with_reducible refine seq_gw h1.out ?_);intro g)|(go_at_call 55;(with_reducible refine seq_gw' (h2.out _ g.grown) ?_);intro g2)|(go_at_call 56;(with_reducible refine seq_gw' (he.out _ g2.grown) ?_);intro g3))
 go_returns
 exact⟨rfl,g3.grown⟩
def usl(w:World)(p:Nat):Value:=(w.cell? ⟨p,4,none⟩).getD undef
structure Kq (p mb:Nat) (w w':World):Prop where
 typ:∀C T vs,Ob w C T vs→T≠93→T≠103→Ob w' C T vs
 blk:∀b obj,w.heap[b]? = some obj→b∉mb::wrt p (usl w p)→w'.heap[b]? = some obj
 own:∀b,(usl w' p).ownBlock=some b→b∈wrt p (usl w p)∨w.heap.size≤b
 size:w.heap.size≤w'.heap.size
theorem Kq.trans{p mb:Nat}{a b c:World}(h:Kq p mb a b)(k:Kq p mb b c):Kq p mb a c:=⟨fun C T vs o h1 h2=>k.typ C T vs (h.typ C T vs o h1 h2) h1 h2,fun x obj hx hn=>by
 refine k.blk x obj (h.blk x obj hx hn) fun hm=>?_
 rcases List.mem_cons.1 hm with e|hm
 ·exact hn (by rw[e];simp)
 ·rcases List.mem_cons.1 hm with e|hm
  ·exact hn (by rw[e];simp)
  ·rcases h.own x (by simpa using hm) with h1|h1
   ·exact hn (List.mem_cons_of_mem _ h1)
   ·have:=lt_of_block hx;omega,fun y hy=>by
 rcases k.own y hy with h1|h1
 ·rcases List.mem_cons.1 h1 with e|h1
  ·exact .inl (by rw[e];simp)
  ·exact h.own y (by simpa using h1)
 ·exact .inr (Nat.le_trans h.size h1),Nat.le_trans h.size k.size⟩
theorem usl_same{w w':World}{p:Nat}(h:w'.heap[p]? = w.heap[p]?):usl w' p=usl w p:=by unfold usl;rw[World.cell?_of_block (a:=⟨p,4,none⟩) h]
theorem kq_ext{p mb:Nat}{w w':World}(hp:p<w.heap.size)(h:Ext w w'):Kq p mb w w':=⟨fun C T vs o _ _=>o.ext h,fun b obj hb _=>(h.block b (lt_of_block hb)).trans hb,fun b hb=>by
 rw[usl_same (h.block p hp)] at hb
 exact .inl (List.mem_cons_of_mem _ (by rw[hb];simp)),h.size⟩
theorem own_kq{p mb:Nat}{w w':World}{B e size n:Nat}{v:Value}{xs:List Value}(h:w.ownsRow B e size v n xs)(k:Kq p mb w w')(h1:e≠93)(h2:e≠103):w'.ownsRow B e size v n xs:=by
 refine⟨h.1,h.2.imp id fun ⟨g,cap,cur,e',hb,hg,rest⟩=>⟨g,cap,cur,e',hb,?_,rest⟩⟩
 have h4:Ob w g e cur.toList:=by unfold Ob;rw[hg,Array.toArray_toList]
 have h5:=k.typ _ _ _ h4 h1 h2
 unfold Ob at h5
 rw[h5,Array.toArray_toList]
theorem pmv_fr{α:Type}{P:Program}{kt:TypeId}{f:α→Lit×Value}{b n:Nat}{M:List α}{w w':World}{S:List Nat}(h:Mv w P kt f b n M)(k:Fr S w w')(hn:b∉S):Mv w' P kt f b n M:=by
 obtain⟨es,⟨e1,clock,hb,F,hs,hD⟩,p⟩:=h
 exact⟨es,⟨e1,clock,(k.block b (lt_of_block hb) hn).trans hb,F,hs,hD⟩,p⟩
theorem mv_ob{α:Type}{P:Program}{kt:TypeId}{f:α→Lit×Value}{b n:Nat}{M:List α}{w:World}(h:Mv w P kt f b n M){C:Nat}{T:TypeId}{vs:List Value}(o:Ob w C T vs):C≠b:=by
 obtain⟨es,⟨e1,clock,hb, -⟩, -⟩:=h
 intro e
 subst e
 unfold Ob at o
 rw[o] at hb
 cases hb
section
variable {w:World} {base p:Nat} {sv:Value} {c ser:Int} {mb n:Nat} {u:Value} {L:List Pb}
theorem usl_of(hP:Pst w base p sv c ser mb u L):usl w p=u:=by unfold usl;rw[hP.ob.cell 4 rfl];rfl
theorem ou_same{w:World}{p:Nat}{u:Value}:∀b,u.ownBlock=some b→b∈wrt p u∨w.heap.size≤b:=fun b hb=> .inl (List.mem_cons_of_mem _ (by rw[hb];simp))
theorem ou_eq{w:World}{p:Nat}{u u':Value}(e:u'.ownBlock=u.ownBlock):∀b,u'.ownBlock=some b→b∈wrt p u∨w.heap.size≤b:=fun b hb=> .inl (List.mem_cons_of_mem _ (by rw[←e,hb];simp))
theorem kq_fr{base':Nat}{sv' u':Value}{c' ser':Int}{mb':Nat}{L':List Pb}{w':World}(hP:Pst w base p sv c ser mb u L)(hP':Pst w' base' p sv' c' ser' mb' u' L'){S:List Nat}(k:Fr S w w')(hS:∀b,b∈S→b∈wrt p u)(hu:∀b,u'.ownBlock=some b→b∈wrt p u∨w.heap.size≤b):Kq p mb w w':=by
 refine⟨fun C T vs o h1 h2=>?_,fun b obj hb hn=>?_,fun b hb=>?_,k.size⟩
 ·refine o.fr k fun hm=>?_
  rcases List.mem_cons.1 (hS _ hm) with e|e
  ·exact Ob.ne o hP.ob h1 e
  ·exact Ob.not_own o hP.own (fun e=>h2 e.symm) (by simpa using e)
 ·rw[usl_of hP] at hn
  exact (k.block b (lt_of_block hb) fun hm=>hn (List.mem_cons_of_mem _ (hS b hm))).trans hb
 ·rw[usl_of hP'] at hb
  rw[usl_of hP]
  exact hu b hb
theorem kq_mb{α:Type}{P:Program}{kt:TypeId}{f:α→Lit×Value}{M:List α}{n:Nat}{w':World}(hP:Pst w base p sv c ser mb u L)(hM:Mv w P kt f mb n M)(k:Fr [mb] w w'):Kq p mb w w':=by
 have hpm:p∉[mb]:=by simp;exact mv_ob hM hP.ob
 refine⟨fun C T vs o _ _=>o.fr k (by simp;exact mv_ob hM o),fun b obj hb hn=>(k.block b (lt_of_block hb) fun hm=>hn (by rw[List.mem_singleton.1 hm];simp)).trans hb,fun b hb=>?_,k.size⟩
 rw[usl_same (k.block p hP.ob.lt hpm)] at hb
 exact .inl (List.mem_cons_of_mem _ (by rw[hb];simp))
theorem kq_map{α:Type}{P:Program}{kt:TypeId}{f:α→Lit×Value}{M:List α}{n:Nat}{w':World}(hP:Pst w base p sv c ser mb u L)(hM:Mv w P kt f mb n M)(hg:w.grownBy w' (some mb)):Kq p mb w w' :=
 kq_mb hP hM ((Fr.refl _ _).grown hg (fun z hz=>by obtain rfl:=Option.some.inj hz;exact .inl (by simp)))
theorem mb_wrt(hP:Pst w base p sv c ser mb u L)(hM:Mv w Tryz.prog 3 kentP mb n L):mb∉wrt p u:=fun hm=>by
 rcases List.mem_cons.1 hm with e|e
 ·exact mv_ob hM hP.ob e.symm
 ·rcases hP.own.2 with ⟨h',h0⟩|⟨g,cap,cur,rfl,hb,hg, -⟩
  ·subst h';simp[Value.ownBlock] at e
  ·have e1:mb=g:=by simp[Value.ownBlock] at e;first|exact e|exact e.symm
   have h4:Ob w g 103 cur.toList:=by unfold Ob;rw[hg,Array.toArray_toList]
   exact mv_ob hM h4 e1.symm
end
structure Pz (w:World) (base p:Nat) (sc:List Cl) (c ser:Int) (mb n:Nat) (L:List Pb):Prop where
 st:∃sv u,Pst w base p sv c ser mb u L∧w.ownsRow 0 87 2 sv sc.length (cl sc)
 map:Mv w Tryz.prog 3 kentP mb n L
 rows:∀y∈L,RwO w y.2.2 y.1.2.1
theorem Mv.ext{α:Type}{P:Program}{kt:TypeId}{f:α→Lit×Value}{b n:Nat}{M:List α}{w w':World}(h:Mv w P kt f b n M)(k:Ext w w'):Mv w' P kt f b n M:=h.kept (row:=none) ⟨k.os,k.tape,k.output,k.size,fun i hi _=>k.block i hi⟩ (by simp)
theorem Pz.ext{w w':World}{base p:Nat}{sc:List Cl}{c ser:Int}{mb n:Nat}{L:List Pb}(h:Pz w base p sc c ser mb n L)(k:Ext w w'):Pz w' base p sc c ser mb n L:=by
 obtain⟨⟨sv,u,h1,h2⟩,h3,h4⟩:=h
 exact⟨⟨sv,u,h1.ext k,own_ext h2 k⟩,Mv.ext h3 k,fun y hy=>own_ext (h4 y hy) k⟩
theorem pkey_of{id:Int}(h:inI id):keyOf Tryz.prog 3 (.int .i64 id)=some (.int .i64 id):=Go.Maps.keyOf_int_mk Tryz.underlying3 (by unfold inI at h;simp[Lit.wf,IntKind.min,IntKind.max];first|omega|(simp [IntKind.wrap,IntKind.bits,IntKind.signed];omega))
theorem pKey:Go.Maps.Keyed Tryz.prog 3:=Go.Maps.int_keyed Tryz.underlying3
def ptV:Option Pb→Value
 |some q=>pp q.2.1
 |none=> .pointer none
theorem plook_ok{w:World}{mb n:Nat}{L:List Pb}(h:Mv w Tryz.prog 3 kentP mb n L){id:Int}(hi:inI id):∀w' [Gn w w'],(Instr.lookup 88 (.map (some mb)) (.int .i64 id) true).run Tryz.prog w'= .ok (.tuple #[ptV (atP L id), .bool (atP L id).isSome]) w':=fun w' k=>by
 rw[(Mv.ext h k.ext).lookOk pKey Tryz.underlying88 (Tryz.zeroValue103 w') (pkey_of hi)]
 show Result.ok (Value.tuple #[((atP L id).map fun q=>(kentP q).2).getD (.pointer none), .bool (atP L id).isSome]) w'=_
 cases atP L id<;>rfl
section
variable {w:World} {base p:Nat} {sc:List Cl} {c ser:Int} {mb n:Nat} {L:List Pb}
theorem pserialOf_c(id:Int)(hi:inI id)(w:World)(h:Pz w base p sc c ser mb n L)(hs:0≤ser∧ser≤1099511627776):Calls Tryz.prog 44 #[.pointer (some ⟨p,0,none⟩), .int .i64 id] w fun e w'=>e= .returned (.int .i64 (match atP L id with|some y=>(pSer y:Int)|none=>ser+1))∧Ext w w':=by
 obtain⟨⟨sv,u,hP, -⟩,hM, -⟩:=h
 have c2:=hP.ob.cell 2 rfl
 have c3:=hP.ob.cell 3 rfl
 have hl:=plook_ok hM hi
 cases ho:atP L id with
 |none =>
  rw[ho] at hl
  replace hl:∀w' [Gn w w'],(Instr.lookup 88 (.map (some mb)) (.int .i64 id) true).run Tryz.prog w'= .ok (.tuple #[.pointer none, .bool false]) w':=hl
  clear hP hM ho
  simp only
  go_enter Tryz.func44,Tryz.ntmps44
  go_wp2_with fail
  go_returns
  exact⟨rfl,Ext.refl _⟩
 |some y =>
  rw[ho] at hl
  replace hl:∀w' [Gn w w'],(Instr.lookup 88 (.map (some mb)) (.int .i64 id) true).run Tryz.prog w'= .ok (.tuple #[pp y.2.1, .bool true]) w':=hl
  have a1:=Ob.cell (hP.evs y (atP_some ho).1) 1 rfl
  clear hP hM ho
  simp only
  generalize y.2.1=yb at *
  go_enter Tryz.func44,Tryz.ntmps44
  go_wp2_with fail
  go_returns
  exact⟨rfl,Ext.refl _⟩
theorem del_drop{L:List Pb}(hi:Ids L){k:Nat}{x:Pb}(hx:L[k]? = some x):delP (L.drop k) (pId x)=L.drop (k+1):=by
 have e:L.drop k=x::L.drop (k+1):=by
  obtain⟨hk,ex⟩:=List.getElem?_eq_some_iff.1 hx
  rw[←ex,←List.getElem_cons_drop]
 have h2:Ids (L.drop k):=List.Pairwise.drop hi
 rw[e] at h2 ⊢
 exact del_mid (a:=[]) h2
theorem ppass_c(t:Int)(w:World)(h:Pz w base p sc c ser mb n L)(hs:Srt L)(hids:Ids L)(hin:∀y∈L,inI (pId y))(hL:L.length≤8192)(hbw:base≤w.heap.size)(hbm:base≤mb)(hbp:base≤p) :
 Calls Tryz.prog 41 #[.pointer (some ⟨p,0,none⟩), .int .i64 t] w fun e w'=>e= .returned (.tuple #[])∧Pz w' base p sc t ser mb n (L.drop (ldN (fun y=>decide (pTo y≤t)) L))∧Kq p mb w w'∧Below base w w':=by
 obtain⟨⟨sv,u,hP,hC⟩,hM,hR⟩:=h
 obtain⟨W1,hW1⟩:∃W1,W1=w.setCell ⟨p,1,none⟩ (.int .i64 t):=⟨_,rfl⟩
 have hF1:Fr [p] w W1:=by rw[hW1];exact (Fr.refl _ w).setCell _ _ (.inl (by simp))
 have hpn:=p_not_own hP
 have hP1:Pst W1 base p sv t ser mb u L:=⟨by rw[hW1];exact hP.ob.set 1 _,powns_fr hP.own hF1 (fun r hr=>by simp;intro e;subst e;exact hpn hr),fun y hy=>evb_fr (hP.evs y hy) hP hF1 (by simp)⟩
 have hK1:Kq p mb w W1:=kq_fr hP hP1 hF1 (by simp) ou_same
 have hM1:Mv W1 Tryz.prog 3 kentP mb n L:=pmv_fr hM hF1 (by simp;exact fun e=>mv_ob hM hP.ob e.symm)
 have hB1:Below base w W1:=by rw[hW1];exact Below.setCell (Below.refl _ _) hbp _
 have hcut:=hide (pcut_c t W1 hP1 hs hL)
 have hm1:=ld_le (fun y=>decide (pTo y≤t)) L
 obtain⟨m,hmN⟩:∃N,N=ldN (fun y=>decide (pTo y≤t)) L:=⟨_,rfl⟩
 rw[←hmN] at hm1 ⊢
 simp only[←hmN] at hcut
 have f1:=hP.ob.free 1
 have c1:=hP.ob.cell 1 rfl
 haveI:In p w:=⟨hP.ob.lt⟩
 have hW1h:=hide hW1
 have hMh:=hide hM1
 have hRk:=hide (fun (w2:World) (hk:Kq p mb w w2) (y:Pb) (hy:y∈L)=>(own_kq (hR y hy) hk (by decide) (by decide):RwO w2 y.2.2 y.1.2.1))
 have hCk:=hide (fun (w2:World) (hk:Kq p mb w w2)=>own_kq hC hk (by decide) (by decide))
 have hK1h:=hide hK1
 have hB1h:=hide hB1
 have hub:=hide (fun b (hb:b∈wrt p u)=>(show base≤b by
  rcases List.mem_cons.1 hb with rfl|hb
  ·exact hbp
  ·exact (hP.own.lt b (by simpa using hb)).1))
 have hP1h:=hide hP1
 have hz1:base≤W1.heap.size:=by have:=hF1.size;omega
 clear hP hM hR hC hK1 hB1 hP1 hM1 hF1 hW1 hpn hmN
 go_enter Tryz.func41,Tryz.ntmps41
 go_wp2_with fail
 rw[←hW1h.out]
 refine hcut.out.mono ?_
 rintro ee W2 ⟨vo,u',m',rfl,hm,hov,hP2,hF2,hub2⟩
 rw[hm] at hov hP2
 clear hm
 have hmt:(L.take m).length=m:=by rw[List.length_take];omega
 have hK2:=hide (hK1h.out.trans (kq_fr hP1h.out hP2 hF2 (fun _ h=>h) (ou_eq hub2)))
 have hB2:Hid (Below base w W2):=hB1h.out.trans (below_fr hF2 hz1 hub.out)
 have hM2:=hide (pmv_fr hMh.out hF2 (mb_wrt hP1h.out hMh.out))
 rw[hmt] at hov
 obtain⟨A2,cap2,hu2⟩:=own_form hov
 subst hu2
 have hevs:=hide (fun y (hy:y∈L)=>evb_fr (hP1h.out.evs y hy) hP1h.out hF2 (fun _ h=>h))
 replace hov:=hide hov
 replace hP2:=hide hP2
 clear hF2 hub2 hcut
 go_wp2_with fail
 go_loopg [16] m (fun gh iv wr=>∃(k:Nat),iv= .int .i64 k∧k+gh=m∧Hid (Mv wr Tryz.prog 3 kentP mb n (L.drop k))∧Hid (Fr [mb] W2 wr))
 case atStart=>exact⟨0,rfl,by omega,by show Mv _ _ _ _ _ _ _;rw[List.drop_zero];exact hM2.out,Fr.refl _ _⟩
 case round =>
  obtain⟨k,rfl,hk,hMk,hFk⟩:=hrel
  by_cases hlt:k<m
  ·obtain⟨y,hy⟩:∃y,L[k]? = some y:=⟨_,List.getElem?_eq_getElem (by omega)⟩
   have hym:=List.mem_of_getElem? hy
   have hdd:=hide (del_drop hids hy)
   have hcell:∃g,A2=some ⟨g,0,none⟩∧g<wr.heap.size∧wr.cell? ⟨g,k,none⟩=some (pp y.2.1):=by
    rcases hov.out.2 with ⟨h',h0⟩|⟨g,cap,cur,h',hb,hg,hnc, -⟩
    ·omega
    ·simp only[Value.slice.injEq] at h'
     obtain⟨rfl, -,rfl⟩:=h'
     have hc:=World.ownsRow.cellAt hov.out k (by omega)
     have hg2:=(World.ownsRow.lt hov.out g rfl).2
     have h4:Ob W2 g 103 cur.toList:=by unfold Ob;rw[hg,Array.toArray_toList]
     have hgm:g∉[mb]:=by simp;exact mv_ob hM2.out h4
     refine⟨g,rfl,Nat.lt_of_lt_of_le hg2 hFk.out.size,?_⟩
     rw[World.cell?_of_block (a:=⟨g,k,none⟩) (hFk.out.block g hg2 hgm),hc]
     simp[tg1,blks,List.getElem?_take,hlt,hy]
   obtain⟨g,rfl,hgl,cg⟩:=hcell
   have hev:Evb wr y:=Ob.fr (hevs.out y hym) hFk.out (by simp;exact mv_ob hM2.out (hevs.out y hym))
   have hob:Ob wr p 93 _:=hP2.out.ob.fr hFk.out (by simp;exact mv_ob hM2.out hP2.out.ob)
   have a0:=Ob.cell hev 0 rfl
   have p3:=hob.cell 3 rfl
   haveI:In p wr:=⟨hob.lt⟩
   haveI:In y.2.1 wr:=⟨Ob.lt hev⟩
   haveI:In g wr:=⟨hgl⟩
   have hid:=hide (hin y hym)
   have hkI:(k:Int)<m:=by omega
   clear hy hev hob hym
   generalize y.2.1=yb at *
   go_wp2_with fail
   refine wp_region_gw_tail 8 (by kernel_rfl) (by kernel_rfl) ?_
   simp only[List.take_succ_cons,List.take_zero,List.drop_succ_cons,List.drop_zero]
   repeat (go_big_quiet_step (fail))
   refine wpQuiet_nil ?_
   intro g1
   have hMg:=hide (Mv.ext hMk.out g1.grown)
   go_wp2_with (at_delete;refine wpl_mdel rfl (.tmp 23) (.tmp 27) rfl rfl rfl pKey Tryz.underlying88 hMg.out (pkey_of hid.out) ?_;intro w5 hM5 hg5;replace hM5:=hide hM5;have hF5:=hide ((hFk.out.trans (Fr.of_ext g1.grown)).grown hg5 (fun z hz=>by obtain rfl:=Option.some.inj hz;exact .inl (by simp))))
   go_roundg (m-(k+1))
   case measure=>omega
   case rel=>exact⟨k+1,by go_num,by omega,(by show Mv _ _ _ _ _ _ _;rw[←hdd.out];exact hM5.out),hF5⟩
  ·have hke:k=m:=by omega
   subst hke
   have hge:¬(k:Int)<k:=by omega
   have hKf:=hide (hK2.out.trans (kq_mb hP2.out hM2.out hFk.out))
   have hBf:=hide (hB2.out.trans (below_fr hFk.out (by have:=hB2.out.size;omega) (by simp;exact hbm)))
   have hPf:Hid (Pst wr base p sv t ser mb u' (L.drop k)):=⟨hP2.out.ob.fr hFk.out (by simp;exact mv_ob hM2.out hP2.out.ob),powns_fr hP2.out.own hFk.out (fun r hr=>by
    simp
    rcases hP2.out.own.2 with ⟨h',h0⟩|⟨g,cap,cur,h',hb,hg, -⟩
    ·rw[h'] at hr;simp[Value.ownBlock] at hr
    ·rw[h'] at hr
     have h4:Ob W2 g 103 cur.toList:=by unfold Ob;rw[hg,Array.toArray_toList]
     have e1:g=r:=by simpa [Value.ownBlock] using hr
     rw[←e1]
     exact mv_ob hM2.out h4),fun y hy=>Ob.fr (hP2.out.evs y hy) hFk.out (by simp;exact mv_ob hM2.out (hP2.out.evs y hy))⟩
   go_wp2_with fail
   go_end0
   exact⟨rfl,⟨⟨sv,u',hPf.out,hCk.out _ hKf.out⟩,hMk.out,fun y hy=>hRk.out _ hKf.out y (List.mem_of_mem_drop hy)⟩,hKf.out,hBf.out⟩
end
end Go.Proofs.YtajelkkiijdegaaGreat
