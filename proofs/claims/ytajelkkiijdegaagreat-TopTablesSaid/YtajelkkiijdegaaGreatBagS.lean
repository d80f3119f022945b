/-
  A helper of ours: no claim of its own. Layer 12 (bag): a sum of a table and edges, row by row, on lists.
-/
import Derived.Test.YtajelkkiijdegaaGreatBagK
import Derived.Shelf.SlSortCmp.WholeK
import Derived.Shelf.SlSortCmp.NoneTotal
import Derived.Test.YtajelkkiijdegaaGreatProg
import Derived.Test.YtajelkkiijdegaaGreatValB
import Derived.Test.YtajelkkiijdegaaGreatEdgO
import Derived.Test.YtajelkkiijdegaaGreatStepR
import Derived.Test.YtajelkkiijdegaaGreatStepD
import Derived.Test.YtajelkkiijdegaaGreatStepV
import Derived.Test.YtajelkkiijdegaaGreatEdgEa
import Derived.Test.YtajelkkiijdegaaGreatStepE
import Derived.Test.YtajelkkiijdegaaGreatEdgGs
set_option linter.unusedVariables false
set_option linter.unusedSimpArgs false
set_option linter.unusedSectionVars false
set_option maxHeartbeats 64000000
set_option maxRecDepth 100000
namespace Go.Proofs.YtajelkkiijdegaaGreat
open Go.RowKit
attribute [local go_sem] GW.cell GW.frozen In.eq_true In.le_true In.ne In.ne' In.ne_add In.ne_add' In.lt_add Upto.le_true Upto.le_add Upto.lt_add Oper.semAt_some wide_depth wide_fn
def fcs(D:List Fe):List Value:=D.flatMap fun p=>[p.1,p.2.1]
theorem fcs_snoc(D:List Fe)(p:Fe):fcs (D++[p])=fcs D++[p.1,p.2.1]:=by simp[fcs]
abbrev OwnFs(w:World)(base:Nat)(v:Value)(D:List Fe):Prop:=w.ownsRow base 124 2 v D.length (fcs D)
theorem tFn:ElemT Tryz.prog 146 124 (.agg #[.slice none 0 0, .slice none 0 0]) 2 48:=ElemT.mk' Tryz.underlying146 (by kernel_rfl) rfl (by omega)
theorem src_two{P:Program}{tx e':TypeId}(hk:P.underlying tx=some (.slice e'))(w:World)(v1 v2:Value)(h1:v1.oneCell'=true)(h2:v2.oneCell'=true)(E:TypeId):Src P 2 tx (.slice (some ⟨w.heap.size,0,none⟩) 1 1) 1 [v1,v2] (w.alloc (.cells #[v1,v2] E)) :=
 Src.ofSlice _ hk _ 1 1 [v1,v2] (by simp) (fun j u hj=>by
  have hh:=(Ob.new w E [v1,v2]).cell j hj
  rw[show (⟨w.heap.size,0,none⟩:Addr).add j=⟨w.heap.size,j,none⟩ by rw[add_plain];simp]
  exact hh) (by
  intro u hu
  simp only[List.mem_cons,List.not_mem_nil,or_false] at hu
  rcases hu with rfl|rfl
  ·exact h1
  ·exact h2)
abbrev IAs(w:World)(b2 B0:Nat)(T:List Fe)(D:List Fe)(W:World):Prop :=
 (∃mv,Ob W b2 146 [mv]∧OwnFs W B0 mv D)∧((∃L',T.Perm (D++L'))∧(Ext w W∧B0≤W.heap.size))
theorem IAs.stab(w:World)(b2 B0:Nat)(T D:List Fe)(C:Nat)(hC:w.heap.size≤C):Stab C (IAs w b2 B0 T D) :=
 (Stab.ex fun mv=>(Stab.ob _ _ _).and (Stab.own _ _ _ _ _ _)).and ((Stab.pure _).and ((Stab.of_ext hC).and ⟨fun A C h e=>Nat.le_trans h e.size,fun A l o o' h _ _ _=>by simpa using h⟩))
theorem appendSeq_c(kf:List Vl→List UInt8)(S:List Nat)(mb n:Nat)(T:List Fe)(b:Nat)(w:World)(hM:Fm kf w S mb n T)(hb:Ob w b 116 [.map (some mb)])(hT:T.length≤1000000):Calls Tryz.prog 186 #[.slice none 0 0, .func (.func 136) #[] #[.pointer (some ⟨b,0,none⟩)]] w fun e w'=>∃v' D,e= .returned v'∧D.Perm T∧OwnFs w' w.heap.size v' D∧Ext w w':=by
 have hml:=hM.1.lt
 obtain⟨W0,hW0⟩:∃W0,W0=w.alloc (.cells #[.slice none 0 0] 146):=⟨_,rfl⟩
 have hX0:Ext w W0:=by rw[hW0];exact (Ext.refl w).alloc _
 have p2:Ob W0 w.heap.size 146 [.slice none 0 0]:=by rw[hW0];exact Ob.new w _ _
 have hM0:Fm kf W0 S mb n T:=⟨hM.1.kept (ext_by hX0) (by simp),fun p hp=>⟨Sl.ext (hM.2 p hp).1 hX0,Sl.ext (hM.2 p hp).2 hX0⟩⟩
 have hseq:=values_seq kf [w.heap.size] S mb n T W0 W0 b hM0 (Ext.refl _) (hb.ext hX0) (by simp;omega)
 have hzw:=hX0.size
 have hb2l:=p2.lt
 have hW0s:W0.heap.size=w.heap.size+1:=by rw[hW0];simp
 rw[hW0s] at hseq
 refine calls_marks Tryz.func186 rfl ?_
 simp only[Tryz.ntmps186,List.size_toArray,List.length_cons,List.length_nil,Nat.reduceAdd,Nat.reduceSub,Array.replicate_succ,Array.replicate_zero,List.push_toArray,List.append_toArray,List.nil_append,List.cons_append]
 go_wp2_with fail
 rw[←hW0]
 refine wp_rangeG (X:=[w.heap.size]) (xs:=T) rfl (enters_of Tryz.func136 (by kernel_rfl) rfl) hseq (Ext.refl _) (by omega) (fun x vs W h=>by rw[h.1];rfl) (fun x vs=>Hv.stab x vs)
  (fun _ _=>False) (fun b=>Stab.pure _) (IAs w w.heap.size (w.heap.size+1) T) (fun c D W=>False)
  (fun D=>IAs.stab w _ _ T D _ hzw) (fun c D=>Stab.pure _)
  ⟨⟨_,p2,World.ownsRow_nil _ _ _ _⟩,⟨T,by simp⟩,hX0,by omega⟩
  (fun D x vs a' W=>∃bv,a'={ tmps:= #[.slice none 0 0, .func (.func 136) #[] #[.pointer (some ⟨b,0,none⟩)], .pointer (some ⟨w.heap.size,0,none⟩),undef, .slice none 0 0, .pointer (some ⟨bv,0,none⟩), .func (.func 136) #[] #[.pointer (some ⟨b,0,none⟩)], .agg #[x.1,x.2.1],undef,undef,undef,undef,undef],defers:=[]}∧Ob W bv 124 [x.1,x.2.1])
  (fun D x vs a'=>Stab.ex fun bv=>(Stab.pure _).and (Stab.ob _ _ _)) ?assign ?body ?done ?stop
 case assign =>
  rintro LL D ⟨v1,v2,q,f⟩ vs W K _ ⟨rfl,⟨A1,n1,c1,e1⟩,⟨A2,n2,c2,e2⟩⟩ hK
  simp only at e1 e2
  subst e1;subst e2
  gi_wp2
  exact hK _ _ ((Ext.refl W).alloc _) ⟨_,rfl,Ob.new W _ _⟩
 case body =>
  rintro LL D ⟨v1,v2,q,f⟩ vs a' W ⟨L',hp⟩ ⟨⟨mv,o2,ho⟩, -,hXk,h1W⟩ ⟨rfl,⟨A1,n1,c1,e1⟩,⟨A2,n2,c2,e2⟩⟩ ⟨bv,rfl,ov⟩
  simp only at e1 e2
  subst e1;subst e2
  have k2:=o2.cell 0 rfl
  have kv0:=ov.cell 0 rfl
  have kv1:=ov.cell 1 rfl
  have hDl:D.length<1000000:=by have:=hp.length_eq;rw[List.length_append,List.length_cons] at this;omega
  have hno:=Ob.not_own o2 ho (by decide)
  have hp':=hide hp
  have hobg:=ob_ge ho
  obtain⟨MA,mcap,rfl⟩:=own_form ho
  have ho':=hide ho
  have o2':=hide o2
  have hXk':=hide hXk
  clear ho o2 hXk hp ov
  gi_wp2_with (refine wplIn_app tFn rfl (.tmp 8) (.tmp 10) rfl rfl (own_ext ho'.out ((Ext.refl W).alloc _)) rfl (src_two Tryz.underlying146 W _ _ rfl rfl _) (by unfold maxLen;omega) (by omega) (by simp only[World.size_alloc];omega) ?_;intro v8 w8 ho8 hg8 hob8;have o8:=(o2'.out.alloc (.cells #[.slice A1 n1 c1, .slice A2 n2 c2] 124)).grown hg8 (Ne.symm hno);have k8:=o8.cell 0 rfl;have fr8:=o8.free 0;have l8:=o8.lt;haveI:In w.heap.size w8:=⟨l8⟩;replace o8:=hide o8;obtain⟨A8,c8,q8⟩:=own_form ho8;subst q8)
  have hS:∀y∈w.heap.size::ob (.slice MA D.length mcap),y=w.heap.size∨w.heap.size+1≤y:=fun y hy=>(List.mem_cons.1 hy).imp id (fun h=>(hobg y h).1)
  have hF:Fr (w.heap.size::ob (.slice MA D.length mcap)) W (w8.setCell ⟨w.heap.size,0,none⟩ (.slice A8 (D.length+1) c8)):=((((Fr.refl _ W).alloc _).grown hg8 (fun k hk=> .inl (List.mem_cons_of_mem _ (by unfold ob;rw[show (Value.slice MA D.length mcap).ownBlock=some k from hk];exact List.mem_singleton.2 rfl)))).setCell ⟨w.heap.size,0,none⟩ _ (.inl (by simp)))
  have hown:OwnFs (w8.setCell ⟨w.heap.size,0,none⟩ (.slice A8 (D.length+1) c8)) (w.heap.size+1) (.slice A8 (D.length+1) c8) (D++[(.slice A1 n1 c1, .slice A2 n2 c2,q,f)]):=by
   have h1:=own_fr ho8 ((Fr.refl [w.heap.size] w8).setCell ⟨w.heap.size,0,none⟩ (.slice A8 (D.length+1) c8) (.inl (by simp))) (by simp)
   unfold OwnFs
   rw[fcs_snoc,List.length_append,List.length_singleton]
   exact h1
  have o9:=o8.out.set 0 (.slice A8 (D.length+1) c8)
  refine⟨keeps_fr hF (fun y hy=>?_),belX_fr hF h1W (fun y hy=>?_),⟨⟨_,o9,hown⟩,⟨L',by rw[List.append_assoc];exact hp'.out⟩,ext_fr hXk'.out hF (fun y hy=>by have:=hS y hy;omega),Nat.le_trans h1W hF.size⟩,fun _ _ _ h=>h.elim⟩
  ·rcases List.mem_cons.1 hy with rfl|hy
   ·exact⟨_,_,o2'.out⟩
   ·exact ob_obj ho'.out y hy
  ·rcases hS y hy with h|h
   ·exact .inr (by simp[h])
   ·exact .inl h
 case done =>
  rintro Dd D W hD hDp ⟨⟨mv,o2,ho⟩, -,hXk,h1W⟩ hK
  have k2:=o2.cell 0 rfl
  obtain⟨MA,mcap,rfl⟩:=own_form ho
  have ho':=hide ho
  have hXk':=hide hXk
  have hK':=hide hK
  have hDp':=hide hDp
  clear ho hXk hK hDp
  go_wp2_with fail
  refine ret_mark hK'.out (v:= .slice MA D.length mcap) (by simp[results,Tryz.f186,go_sem]) ⟨_,D,rfl,hDp'.out,?_,put_ext hXk'.out (by omega) _⟩
  have h1:=(Stab.own (B:=0) _ _ _ _ _ _).put _ Dd _ (.deferred none) ho'.out (Nat.zero_le _) hK'.out rfl
  exact own_base h1 (by omega)
 case stop =>
  rintro D c k W _ h
  exact h.elim
end Go.Proofs.YtajelkkiijdegaaGreat
namespace Go.Proofs.YtajelkkiijdegaaGreat
open Go.Shelf
def Tryz.sortB_ren:Go.Shelf.Ren:=⟨fun|6=>135|15=>157|14=>187|28=>214|29=>215|20=>231|21=>232|22=>233|23=>234|24=>235|25=>236|26=>237|27=>238|46=>258|47=>243|48=>244|49=>259|50=>260|57=>267|n=>n,fun|22=>146|24=>124|25=>151|3=>3|39=>219|0=>0|53=>258|55=>260|4=>4|46=>251|45=>250|50=>255|5=>5|9=>9|66=>285|70=>289|76=>304|77=>305|n=>n,fun|n=>n⟩
theorem Tryz.sortB:Go.Proofs.SlLaysF0.n6 Tryz.prog Tryz.sortB_ren:={
 mixed:=by kernel_rfl
 f6:=⟨Tryz.f135.name,by decide,Tryz.func135.trans (congrArg some (by kernel_rfl))⟩
 f14:=⟨Tryz.f187.name,by decide,Tryz.func187.trans (congrArg some (by kernel_rfl))⟩
 f15:=Tryz.func157.trans (congrArg some (by kernel_rfl))
 f20:=⟨Tryz.f231.name,by decide,Tryz.func231.trans (congrArg some (by kernel_rfl))⟩
 f21:=⟨Tryz.f232.name,by decide,Tryz.func232.trans (congrArg some (by kernel_rfl))⟩
 f22:=⟨Tryz.f233.name,by decide,Tryz.func233.trans (congrArg some (by kernel_rfl))⟩
 f23:=⟨Tryz.f234.name,by decide,Tryz.func234.trans (congrArg some (by kernel_rfl))⟩
 f24:=⟨Tryz.f235.name,by decide,Tryz.func235.trans (congrArg some (by kernel_rfl))⟩
 f25:=⟨Tryz.f236.name,by decide,Tryz.func236.trans (congrArg some (by kernel_rfl))⟩
 f26:=⟨Tryz.f237.name,by decide,Tryz.func237.trans (congrArg some (by kernel_rfl))⟩
 f27:=⟨Tryz.f238.name,by decide,Tryz.func238.trans (congrArg some (by kernel_rfl))⟩
 f28:=Tryz.func214.trans (congrArg some (by kernel_rfl))
 f29:=Tryz.func215.trans (congrArg some (by kernel_rfl))
 f46:=⟨Tryz.f258.name,by decide,Tryz.func258.trans (congrArg some (by kernel_rfl))⟩
 f47:=Tryz.func243.trans (congrArg some (by kernel_rfl))
 f48:=Tryz.func244.trans (congrArg some (by kernel_rfl))
 f49:=⟨Tryz.f259.name,by decide,Tryz.func259.trans (congrArg some (by kernel_rfl))⟩
 f50:=⟨Tryz.f260.name,by decide,Tryz.func260.trans (congrArg some (by kernel_rfl))⟩
 f57:=⟨Tryz.f267.name,by decide,Tryz.func267.trans (congrArg some (by kernel_rfl))⟩
 t0:=Tryz.underlying0
 a0:=Tryz.isAgg0
 z0:=Tryz.sizeOf0
 v0:=Tryz.zeroValue0
 t3:=Tryz.underlying3
 a3:=Tryz.isAgg3
 z3:=Tryz.sizeOf3
 v3:=Tryz.zeroValue3
 t4:=Tryz.underlying4
 a4:=Tryz.isAgg4
 z4:=Tryz.sizeOf4
 v4:=Tryz.zeroValue4
 t5:=Tryz.underlying5
 a5:=Tryz.isAgg5
 z5:=Tryz.sizeOf5
 v5:=Tryz.zeroValue5
 t9:=Tryz.underlying9
 a9:=Tryz.isAgg9
 z9:=Tryz.sizeOf9
 v9:=Tryz.zeroValue9
 t22:=Tryz.underlying146
 a22:=Tryz.isAgg146
 z22:=Tryz.sizeOf146
 v22:=Tryz.zeroValue146
 t25:=Tryz.underlying151
 a25:=Tryz.isAgg151
 z25:=Tryz.sizeOf151
 v25:=Tryz.zeroValue151
 t39:=Tryz.underlying219
 a39:=Tryz.isAgg219
 z39:=Tryz.sizeOf219
 v39:=Tryz.zeroValue219
 t45:=Tryz.underlying250
 a45:=Tryz.isAgg250
 z45:=Tryz.sizeOf250
 v45:=Tryz.zeroValue250
 t46:=Tryz.underlying251
 a46:=Tryz.isAgg251
 z46:=Tryz.sizeOf251
 v46:=Tryz.zeroValue251
 t50:=Tryz.underlying255
 a50:=Tryz.isAgg255
 z50:=Tryz.sizeOf255
 v50:=Tryz.zeroValue255
 t53:=Tryz.underlying258
 a53:=Tryz.isAgg258
 z53:=Tryz.sizeOf258
 v53:=Tryz.zeroValue258
 t55:=Tryz.underlying260
 a55:=Tryz.isAgg260
 z55:=Tryz.sizeOf260
 v55:=Tryz.zeroValue260
 t66:=Tryz.underlying285
 a66:=Tryz.isAgg285
 z66:=Tryz.sizeOf285
 v66:=Tryz.zeroValue285
 t70:=Tryz.underlying289
 a70:=Tryz.isAgg289
 z70:=Tryz.sizeOf289
 v70:=Tryz.zeroValue289
 t76:=Tryz.underlying304
 a76:=Tryz.isAgg304
 z76:=Tryz.sizeOf304
 v76:=Tryz.zeroValue304
 t77:=Tryz.underlying305
 a77:=Tryz.isAgg305
 z77:=Tryz.sizeOf305
 v77:=Tryz.zeroValue305}
end Go.Proofs.YtajelkkiijdegaaGreat
namespace Go.Proofs.YtajelkkiijdegaaGreat
open Go.RowKit
theorem tabE_rows{l:List Ed}(h:mayE l=true):tabE l=(rowsL l).all fun r=>decide (0≤leV (jmps l r)):=by
 unfold tabE
 rw[h,Bool.true_and,grp_eq (mayE_rise h)]
 unfold byRows
 rw[List.all_map]
 rfl
end Go.Proofs.YtajelkkiijdegaaGreat
namespace Go.Proofs.YtajelkkiijdegaaGreat
open Go.RowKit
attribute [-go_sem] sliced
attribute [local go_sem] sliced_eq
attribute [local go_sem] GW.cell GW.frozen In.eq_true In.le_true In.ne In.ne' In.ne_add In.ne_add' In.lt_add Upto.le_true Upto.le_add Upto.lt_add
end Go.Proofs.YtajelkkiijdegaaGreat
namespace Go.Proofs.YtajelkkiijdegaaGreat
open Go.RowKit
attribute [local go_sem] GW.cell GW.frozen In.eq_true In.le_true In.ne In.ne' In.ne_add In.ne_add' In.lt_add Upto.le_true Upto.le_add Upto.lt_add
end Go.Proofs.YtajelkkiijdegaaGreat
namespace Go.Proofs.YtajelkkiijdegaaGreat
open Go.RowKit
end Go.Proofs.YtajelkkiijdegaaGreat
namespace Go.Proofs.YtajelkkiijdegaaGreat
open Go.RowKit
attribute [local go_sem] GW.cell GW.frozen In.eq_true In.le_true In.ne In.ne' In.ne_add In.ne_add' In.lt_add Upto.le_true Upto.le_add Upto.lt_add
theorem ne_may{l:List Ed}(h:neE l=0):mayE (neR l)=true:=by
 obtain⟨h1,h2,h3⟩:=ne_zero h
 obtain⟨k1,k2,k3⟩:=each_zero h2
 have hv:∀e∈l,mayR e.1=true:=fun e he=>by
  have:=(h1 e he).1
  unfold badE at this
  cases hm:mayR e.1
  ·rw[hm] at this;simp at this
  ·rfl
 rw[h3]
 refine may_each (by rw[nmOp_nil]) hv k2 fun r=>?_
 have h0:=op_rows (op:=nmOp) (by rw[nmOp_nil]) hv k1 r
 unfold nmOp at h0 ⊢
 simp only at h0 ⊢
 unfold nmR
 rw[if_pos h0]
 unfold nmE at h0
 split at h0
 ·cases h0
 ·split at h0
  ·cases h0
  ·unfold full at h0
   split at h0
   ·assumption
   ·cases h0
end Go.Proofs.YtajelkkiijdegaaGreat
namespace Go.Proofs.YtajelkkiijdegaaGreat
open Go.RowKit
def addOne(X:List Ed)(g:Gp):Int×List Jp:=nmOp (jmps X g.1++g.2)
theorem fineJ{f:List Jp}(h:mayJ f=true):∀j∈f,tooJ j=false∧nowJ j=false:=fun j hj=>okJ_fine ((mayJ_iff.1 h).2.1 j hj)
theorem nmE_full{f:List Jp}(h:∀j∈f,tooJ j=false∧nowJ j=false):nmE f=full (nmL f):=by
 unfold nmE
 have a1:f.any tooJ=false:=List.any_eq_false.2 fun j hj=>by rw[(h j hj).1];decide
 have a2:f.any nowJ=false:=List.any_eq_false.2 fun j hj=>by rw[(h j hj).2];decide
 rw[a1,a2,if_neg (by decide),if_neg (by decide)]
theorem nm_self{f:List Jp}(h:mayJ f=true):nmOp f=(0,f):=by
 have hf:=fineJ h
 have e:nmL f=f:=one_form (nm_canon _) (mayJ_canon h) (nmL_lt _ fun j hj=>(hf j hj).2) (fun j hj=>(mayJ_at h j hj).2) fun t ht=>nmL_val _ (fun j hj=>(hf j hj).2) t ht
 have e1:nmE f=0:=by rw[nmE_full hf,e];exact full_zero.2 h
 unfold nmOp nmR
 rw[e1,if_pos rfl,e]
theorem nm_err{f:List Jp}(h:∀j∈f,tooJ j=false∧nowJ j=false):(nmOp f).1=0∨(nmOp f).1=7:=by
 show nmE f=0∨nmE f=7
 rw[nmE_full h]
 unfold full
 split
 ·exact .inl rfl
 ·exact .inr rfl
theorem evE_seven{op:List Jp→Int×List Jp}:∀ {G:List Gp},(∀g∈G,(op g.2).1=0∨(op g.2).1=7)→(evE op G=0∧∀g∈G,(op g.2).1=0)∨(evE op G=7∧∃g∈G,(op g.2).1=7)
 |[],_=> .inl ⟨rfl,by simp⟩
 |g::G,h=>by
  have hg:=h g (by simp)
  rw[evE]
  rcases hg with hg|hg
  ·rw[if_pos hg]
   rcases evE_seven (G:=G) (fun x hx=>h x (by simp[hx])) with ⟨h1,h2⟩|⟨h1,x,hx,h2⟩
   ·exact .inl ⟨h1,fun x hx=>(List.mem_cons.1 hx).elim (fun e=>e ▸ hg) (h2 x)⟩
   ·exact .inr ⟨h1,x,by simp[hx],h2⟩
  ·rw[if_neg (by rw[hg];decide),hg]
   exact .inr ⟨rfl,g,by simp,hg⟩
section
variable {X l:List Ed}
theorem up_fine(hX:mayE X=true)(hl:mayE l=true):∀e∈X++l,badE e=false∧nowJ e.2=false:=fun e he=>(List.mem_append.1 he).elim (may_fine hX e) (may_fine hl e)
theorem up_val(hX:mayE X=true)(hl:mayE l=true):∀e∈X++l,mayR e.1=true:=fun e he=>(List.mem_append.1 he).elim ((mayE_rise hX).1 e) ((mayE_rise hl).1 e)
theorem up_row(hX:mayE X=true)(hl:mayE l=true)(r:List Vl):∀j∈jmps X r++jmps l r,tooJ j=false∧nowJ j=false:=fun j hj =>
 (List.mem_append.1 hj).elim (fineJ (mayJ_rows hX r) j) (fineJ (mayJ_rows hl r) j)
theorem grp_mem(hl:mayE l=true){g:Gp}(hg:g∈grp l):g.2=jmps l g.1∧g.1∈rowsL l:=by
 rw[grp_eq (mayE_rise hl)] at hg
 obtain⟨r,hr,rfl⟩:=List.mem_map.1 hg
 exact⟨rfl,hr⟩
theorem row_none(hl:mayE l=true){r:List Vl}(h:r∉rowsL l):jmps l r=[]:=by
 apply List.eq_nil_iff_forall_not_mem.2
 intro j hj
 exact h (((rowsL_ok (mayE_rise hl).1).2 r).2 ⟨_,jmps_mem.1 hj,rfl⟩)
theorem upOne_in(r:List Vl):nmOp (jmps (X++l) r)=addOne X (r,jmps l r):=by rw[jmps_append];rfl
theorem upOne_out(hX:mayE X=true)(hl:mayE l=true){r:List Vl}(h:r∉rowsL l):nmOp (jmps (X++l) r)=(0,jmps X r):=by
 rw[jmps_append,row_none hl h,List.append_nil]
 exact nm_self (mayJ_rows hX r)
theorem one_err(hX:mayE X=true)(hl:mayE l=true){g:Gp}(hg:g∈grp l):(addOne X g).1=0∨(addOne X g).1=7:=by
 obtain⟨h1,h2⟩:=grp_mem hl hg
 unfold addOne
 rw[h1]
 exact nm_err (up_row hX hl g.1)
theorem up_err(hX:mayE X=true)(hl:mayE l=true):(neE (X++l)=0∧(∀g∈grp l,(addOne X g).1=0)∧(evL nmOp (byRows (X++l))).length≤4096) ∨
 (neE (X++l)=7∧((∃g∈grp l,(addOne X g).1=7)∨((∀g∈grp l,(addOne X g).1=0)∧4096<(evL nmOp (byRows (X++l))).length))):=by
 rw[ne_ok (up_fine hX hl)]
 have h0:∀g∈byRows (X++l),(nmOp g.2).1=0∨(nmOp g.2).1=7:=fun g hg=>by
  obtain⟨r, -,rfl⟩:=List.mem_map.1 hg
  simp only
  rw[jmps_append]
  exact nm_err (up_row hX hl r)
 have hgr:=grp_eq (mayE_rise hl)
 unfold eachE
 rcases evE_seven h0 with ⟨h1,h2⟩|⟨h1,g,hg,h2⟩
 ·rw[h1,if_pos rfl]
  have h3:∀g∈grp l,(addOne X g).1=0:=fun g hg=>by
   obtain⟨k1,k2⟩:=grp_mem hl hg
   have hm:g.1∈rowsL (X++l):=((rowsL_ok (up_val hX hl)).2 _).2 (by
    obtain⟨e,he,e1⟩:=((rowsL_ok (mayE_rise hl).1).2 _).1 k2
    exact⟨e,List.mem_append_right _ he,e1⟩)
   have:=h2 (g.1,jmps (X++l) g.1) (List.mem_map.2 ⟨_,hm,rfl⟩)
   simp only at this
   rw[jmps_append,←k1] at this
   exact this
  by_cases hlen:4096<(evL nmOp (byRows (X++l))).length
  ·rw[if_pos hlen];exact .inr ⟨rfl, .inr ⟨h3,hlen⟩⟩
  ·rw[if_neg hlen];exact .inl ⟨rfl,h3,by omega⟩
 ·rw[h1,if_neg (by decide)]
  refine .inr ⟨rfl, .inl ?_⟩
  obtain⟨r,hr,rfl⟩:=List.mem_map.1 hg
  simp only at h2
  by_cases hm:r∈rowsL l
  ·rw[upOne_in] at h2
   exact⟨(r,jmps l r),by rw[hgr];exact List.mem_map.2 ⟨r,hm,rfl⟩,h2⟩
  ·rw[upOne_out hX hl hm] at h2;cases h2
theorem perm_sumI{A B:List Int}(p:A.Perm B):A.sum=B.sum:=by
 induction p with
 |nil=>rfl
 |cons x _ ih=>rw[List.sum_cons,List.sum_cons,ih]
 |swap x y l=>rw[List.sum_cons,List.sum_cons,List.sum_cons,List.sum_cons];omega
 |trans _ _ h1 h2=>exact h1.trans h2
theorem sum_sub{α:Type}[DecidableEq α](h:α→Int){A B:List α}(ha:A.Nodup)(hb:B.Nodup)(hs:∀x∈A,x∈B)(hz:∀x∈B,x∉A→h x=0):(B.map h).sum=(A.map h).sum:=by
 have hp:B.Perm (A++B.filter fun x=>decide (x∉A)):=by
  refine (List.perm_ext_iff_of_nodup hb ?_).2 fun x=>?_
  ·refine List.nodup_append.2 ⟨ha,hb.filter _,fun x hx y hy e=>?_⟩
   subst e
   have:=(List.mem_filter.1 hy).2
   rw[decide_eq_true_iff] at this
   exact this hx
  ·rw[List.mem_append,List.mem_filter,decide_eq_true_iff]
   constructor
   ·intro hx
    by_cases hxa:x∈A
    ·exact .inl hxa
    ·exact .inr ⟨hx,hxa⟩
   ·rintro (hx|hx)
    ·exact hs x hx
    ·exact hx.1
 have hz2:((B.filter fun x=>decide (x∉A)).map h).sum=0:=by
  have:∀C:List α,(∀x∈C,h x=0)→(C.map h).sum=0:=by
   intro C
   induction C with
   |nil=>intro _;rfl
   |cons x C ih=>intro hc;rw[List.map_cons,List.sum_cons,hc x (by simp),ih fun y hy=>hc y (by simp[hy])];rfl
  exact this _ fun x hx=>by
   obtain⟨h1,h2⟩:=List.mem_filter.1 hx
   rw[decide_eq_true_iff] at h2
   exact hz x h1 h2
 rw[perm_sumI (hp.map h),List.map_append,List.sum_append,hz2]
 omega
theorem rlt_nodup{A:List (List Vl)}(h:A.Pairwise rlt):A.Nodup:=h.imp fun {a b} hab=>rlt_ne hab
theorem ev_lenI(op:List Jp→Int×List Jp)(Y:List Ed):((evL op (byRows Y)).length:Int)=((rowsL Y).map fun r=>((op (jmps Y r)).2.length:Int)).sum:=by
 unfold evL byRows
 rw[List.flatMap_map]
 induction rowsL Y with
 |nil=>rfl
 |cons r rows ih =>
  rw[List.flatMap_cons,List.map_cons,List.sum_cons,List.length_append,List.length_map,←ih]
  simp only
  omega
theorem len_rowsI(hX:mayE X=true):(X.length:Int)=((rowsL X).map fun r=>((jmps X r).length:Int)).sum:=by
 have e:evL (fun f=>(0,f)) (byRows X)=X:=ed_ext (rise_each _ (mayE_rise hX).1) (mayE_rise hX) fun r=>by
  rw[jmps_each rfl (mayE_rise hX).1]
 have:=ev_lenI (fun f=>(0,f)) X
 rw[e] at this
 exact this
theorem up_len(hX:mayE X=true)(hl:mayE l=true):((evL nmOp (byRows (X++l))).length:Int)=X.length+((grp l).map fun g=>((addOne X g).2.length:Int)-(jmps X g.1).length).sum:=by
 have hv:=up_val hX hl
 have nB:=rlt_nodup (rowsL_ok hv).1
 have nX:=rlt_nodup (rowsL_ok (mayE_rise hX).1).1
 have nl:=rlt_nodup (rowsL_ok (mayE_rise hl).1).1
 have sX:∀r∈rowsL X,r∈rowsL (X++l):=fun r hr=>by
  obtain⟨e,he,e1⟩:=((rowsL_ok (mayE_rise hX).1).2 _).1 hr
  exact ((rowsL_ok hv).2 _).2 ⟨e,List.mem_append_left _ he,e1⟩
 have sl:∀r∈rowsL l,r∈rowsL (X++l):=fun r hr=>by
  obtain⟨e,he,e1⟩:=((rowsL_ok (mayE_rise hl).1).2 _).1 hr
  exact ((rowsL_ok hv).2 _).2 ⟨e,List.mem_append_right _ he,e1⟩
 rw[ev_lenI,len_rowsI hX,←sum_sub (fun r=>((jmps X r).length:Int)) nX nB sX (fun r _ hr=>by rw[row_none hX hr];rfl)]
 rw[grp_eq (mayE_rise hl),show ((byRows l).map fun g=>((addOne X g).2.length:Int)-(jmps X g.1).length)=(rowsL l).map fun r=>((addOne X (r,jmps l r)).2.length:Int)-(jmps X r).length by unfold byRows;rw[List.map_map];rfl]
 have k:=sum_sub (fun r=>((nmOp (jmps (X++l) r)).2.length:Int)-(jmps X r).length) nl nB sl (fun r _ hr=>by rw[upOne_out hX hl hr];simp)
 have k2:((rowsL l).map fun r=>((nmOp (jmps (X++l) r)).2.length:Int)-(jmps X r).length)=(rowsL l).map fun r=>((addOne X (r,jmps l r)).2.length:Int)-(jmps X r).length:=List.map_congr_left fun r hr=>by rw[upOne_in]
 rw[k2] at k
 rw[←k]
 have:∀C:List (List Vl),(C.map fun r=>((nmOp (jmps (X++l) r)).2.length:Int)).sum=(C.map fun r=>((jmps X r).length:Int)).sum+(C.map fun r=>((nmOp (jmps (X++l) r)).2.length:Int)-(jmps X r).length).sum:=by
  intro C
  induction C with
  |nil=>rfl
  |cons r C ih=>simp only[List.map_cons,List.sum_cons];rw[ih];omega
 exact this _
theorem up_fn(hX:mayE X=true)(hl:mayE l=true)(h0:neE (X++l)=0)(r:List Vl):jmps (neR (X++l)) r=(nmOp (jmps (X++l) r)).2:=by
 obtain⟨h1,h2,h3⟩:=ne_zero h0
 rw[h3,jmps_each (by rw[nmOp_nil]) (up_val hX hl)]
theorem up_fn_in(hX:mayE X=true)(hl:mayE l=true)(h0:neE (X++l)=0)(r:List Vl):jmps (neR (X++l)) r=(addOne X (r,jmps l r)).2:=by rw[up_fn hX hl h0,upOne_in]
theorem up_fn_out(hX:mayE X=true)(hl:mayE l=true)(h0:neE (X++l)=0){r:List Vl}(h:r∉rowsL l):jmps (neR (X++l)) r=jmps X r:=by rw[up_fn hX hl h0,upOne_out hX hl h]
theorem up_tab(hX:tabE X=true)(hl:mayE l=true)(h0:neE (X++l)=0):tabE (neR (X++l))=(grp l).all fun g=>decide (0≤leV (addOne X g).2):=by
 have hXm:mayE X=true:=by unfold tabE at hX;exact (Bool.and_eq_true_iff.1 hX).1
 have hm:=ne_may h0
 rw[tabE_rows hm,grp_eq (mayE_rise hl)]
 have hrX:∀r∈rowsL X,0≤leV (jmps X r):=fun r hr=>by
  rw[tabE_rows hXm] at hX
  have:=List.all_eq_true.1 hX r hr
  rwa [decide_eq_true_iff] at this
 rw[Bool.eq_iff_iff,List.all_eq_true,List.all_eq_true]
 constructor
 ·intro h g hg
  obtain⟨r,hr,rfl⟩:=List.mem_map.1 hg
  rw[decide_eq_true_iff]
  have e:=up_fn_in hXm hl h0 r
  by_cases hin:r∈rowsL (neR (X++l))
  ·have:=h r hin
   rw[decide_eq_true_iff,e] at this
   exact this
  ·rw[←e,row_none hm hin];decide
 ·intro h r hr
  rw[decide_eq_true_iff]
  by_cases hin:r∈rowsL l
  ·rw[up_fn_in hXm hl h0 r]
   have:=h (r,jmps l r) (List.mem_map.2 ⟨r,hin,rfl⟩)
   rwa [decide_eq_true_iff] at this
  ·rw[up_fn_out hXm hl h0 hin]
   by_cases hx:r∈rowsL X
   ·exact hrX r hx
   ·rw[row_none hXm hx];decide
end
end Go.Proofs.YtajelkkiijdegaaGreat
