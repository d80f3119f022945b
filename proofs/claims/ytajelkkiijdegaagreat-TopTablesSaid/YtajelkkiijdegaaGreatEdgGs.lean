/-
  A helper of ours: no claim of its own. Layer 10 (edge): Groups by the code: what it keeps, what it tells.
-/
import Derived.Test.YtajelkkiijdegaaGreatEdgEa
import Derived.Test.YtajelkkiijdegaaGreatEdgEr
import Derived.Test.YtajelkkiijdegaaGreatEdgEn
import Derived.Test.YtajelkkiijdegaaGreatEdgO
set_option linter.unusedVariables false
set_option linter.unusedSimpArgs false
set_option linter.unusedSectionVars false
set_option maxHeartbeats 64000000
set_option maxRecDepth 100000
namespace Go.Proofs.YtajelkkiijdegaaGreat
open Go.RowKit
attribute [local go_sem] GW.cell GW.frozen In.eq_true In.le_true In.ne In.ne' In.ne_add In.ne_add' In.lt_add Upto.le_true Upto.le_add Upto.lt_add
def mpE(op:List Jp→Int×List Jp)(l:List Ed):Int:=if mayE l then eachE op (grp l) else 2
def mpR(op:List Jp→Int×List Jp)(l:List Ed):List Ed:=if mayE l then eachR op (grp l) else []
theorem grp_r8{l:List Ed}(h:mayE l=true):∀g∈grp l,g.1.length≤8:=fun g hg=>by
 obtain⟨k1,k2,k3⟩:=grp_rows (mayE_rise h)
 obtain⟨e,he,hee⟩:=(k2 g.1).1 (List.mem_map.2 ⟨g,hg,rfl⟩)
 rw[←hee]
 exact mayR_len ((mayE_rise h).1 e he)
theorem edgeRest_c(L:List Ve)(t:Int)(v:Value)(w:World)(hl:Ew w [] v L):Calls Tryz.prog 33 #[v, .int .i64 t] w fun e w'=>∃v' N,e= .returned (.tuple #[v', .int .i64 (mpE (reOp t) (eds L))])∧eds N=mpR (reOp t) (eds L)∧OwnEr w' w.heap.size v' N∧Ext w w':=by
 have h1:=hide (fun w' (hX:Ext w w')=>edgeMay_c L v w' (hl.ext hX))
 have hX0:=hide ((Ext.refl w).alloc (.cells #[.int .i64 t] 3))
 have hl':=hide hl
 obtain⟨A,cap,rfl,hlc,hlm, -⟩:=ew_form hl
 obtain⟨E,hE⟩:∃E,E=mpE (reOp t) (eds L):=⟨_,rfl⟩
 obtain⟨R,hR⟩:∃R,R=mpR (reOp t) (eds L):=⟨_,rfl⟩
 rw[←hE,←hR]
 unfold mpE at hE
 unfold mpR at hR
 clear hl
 cases ha:mayE (eds L)
 ·rw[ha,if_neg (by decide)] at hE hR
  rw[ha] at h1
  subst hE
  replace hR:=hide hR
  go_enter Tryz.func33,Tryz.ntmps33
  go_wp2_with (go_at_call 62;(with_reducible refine seq_gw (h1.out _ hX0.out) ?_);intro g)
  go_returns
  exact⟨_,[],rfl,by rw[hR.out];rfl,OwnEr.nil _ _,hX0.out.trans g.grown⟩
 ·rw[ha,if_pos rfl] at hE hR
  rw[ha] at h1
  have hll:L.length≤8192:=by have:=mayE_len ha;simp[eds] at this;omega
  have hg8:=hide (grp_r8 ha)
  replace hE:=hide hE
  replace hR:=hide hR
  have hbx:=hide (Ob.new w 3 [.int .i64 t])
  clear ha
  go_enter Tryz.func33,Tryz.ntmps33
  go_wp2_with (first|(go_at_call 62;(with_reducible refine seq_gw (h1.out _ hX0.out) ?_);intro g)|(go_at_call 72;refine (eachRest_c L _ _ (hl'.out.ext (hX0.out.trans g.grown)) hll t _ (hbx.out.ext g.grown) hg8.out).mono ?_;rintro ee w3 ⟨v3,N,rfl,hN,ho3,hX3⟩))
  go_returns
  exact⟨_,N,by rw[hE.out];rfl,by rw[hN,hR.out],ho3.lower (hX0.out.trans g.grown).size,(hX0.out.trans g.grown).trans hX3⟩
end Go.Proofs.YtajelkkiijdegaaGreat
namespace Go.Proofs.YtajelkkiijdegaaGreat
open Go.RowKit
theorem grp_back:∀l:List Ed,evL (fun f=>(0,f)) (grp l)=l
 |[]=>rfl
 |e::r=>by
  have ih:=grp_back r
  unfold grp
  cases h:grp r with
  |nil =>
   rw[h] at ih
   have hr:r=[]:=by rw[←ih];rfl
   subst hr
   rfl
  |cons g t =>
   obtain⟨q,f⟩:=g
   rw[h] at ih
   simp only[evL,List.flatMap_cons] at ih ⊢
   by_cases hq:q=e.1
   ·simp only[if_pos hq,List.flatMap_cons,List.map_cons,List.cons_append]
    rw[ih,hq]
   ·simp only[if_neg hq,List.flatMap_cons,List.map_cons,List.map_nil,List.cons_append,List.nil_append]
    rw[ih]
theorem mem_rows{l:List Ed}(hv:∀e∈l,mayR e.1=true)(r:List Vl):r∈rowsL l↔jmps l r≠[]:=by
 rw[(rowsL_ok hv).2 r]
 constructor
 ·rintro⟨⟨q,j⟩,he,rfl⟩ h
  have:=jmps_mem.2 he
  rw[h] at this;cases this
 ·intro h
  obtain⟨j,hj⟩:=List.exists_mem_of_ne_nil _ h
  exact⟨_,jmps_mem.1 hj,rfl⟩
theorem ed_ext{a b:List Ed}(ha:Rise a)(hb:Rise b)(h:∀r,jmps a r=jmps b r):a=b:=by
 have hr:rowsL a=rowsL b:=asc_unique rlt_irr rlt_asym _ _ (rowsL_ok ha.1).1 (rowsL_ok hb.1).1 fun r=>by rw[mem_rows ha.1,mem_rows hb.1,h]
 have hf:(fun r=>(r,jmps a r))=fun r=>(r,jmps b r):=funext fun r=>by rw[h]
 rw[←grp_back a,←grp_back b,grp_eq ha,grp_eq hb]
 unfold byRows
 rw[hr,hf]
theorem jmps_const(q:List Vl)(f:List Jp)(r:List Vl):jmps (f.map fun j=>(q,j)) r=if q=r then f else []:=by
 induction f with
 |nil=>simp[jmps]
 |cons j f ih =>
  rw[List.map_cons,jmps_cons,ih]
  by_cases h:q=r
  ·simp only[if_pos h]
  ·simp only[if_neg h]
theorem jmps_rows(op:List Jp→Int×List Jp)(F:List Vl→List Jp)(r:List Vl):∀rows:List (List Vl),rows.Pairwise rlt→jmps (evL op (rows.map fun q=>(q,F q))) r=if hasR rows r then (op (F r)).2 else []
 |[],_=>rfl
 |q::rows,h=>by
  have h':=List.pairwise_cons.1 h
  have ih:=jmps_rows op F r rows h'.2
  have e:evL op ((q::rows).map fun q=>(q,F q))=((op (F q)).2.map fun j=>(q,j))++evL op (rows.map fun q=>(q,F q)):=by simp[evL]
  rw[e,jmps_append,jmps_const,ih]
  by_cases hq:q=r
  ·subst hq
   have hno:hasR rows q=false:=by
    rw[←Bool.not_eq_true,hasR_iff]
    exact fun hm=>rlt_irr q (h'.1 q hm)
   have hyes:hasR (q::rows) q=true:=hasR_iff.2 (by simp)
   rw[hno,hyes];simp
  ·have e2:hasR (q::rows) r=hasR rows r:=by simp[hasR,hq]
   rw[if_neg hq,e2,List.nil_append]
theorem jmps_each{op:List Jp→Int×List Jp}(h0:(op []).2=[]){l:List Ed}(hv:∀e∈l,mayR e.1=true)(r:List Vl):jmps (evL op (byRows l)) r=(op (jmps l r)).2:=by
 unfold byRows
 rw[jmps_rows op (fun q=>jmps l q) r _ (rowsL_ok hv).1]
 by_cases h:hasR (rowsL l) r=true
 ·rw[if_pos h]
 ·rw[if_neg h]
  have:jmps l r=[]:=by
   rw[hasR_iff,mem_rows hv] at h
   exact Decidable.not_not.1 h
  rw[this,h0]
theorem evE_all{op:List Jp→Int×List Jp}:∀ {G:List Gp},evE op G=0→∀g∈G,(op g.2).1=0
 |[],_,g,hg=>by cases hg
 |x::t,h,g,hg=>by
  rw[evE] at h
  by_cases hx:(op x.2).1=0
  ·rw[if_pos hx] at h
   rcases List.mem_cons.1 hg with rfl|hg
   ·exact hx
   ·exact evE_all h g hg
  ·rw[if_neg hx] at h;exact absurd h hx
theorem each_zero{op:List Jp→Int×List Jp}{G:List Gp}(h:eachE op G=0):evE op G=0∧(evL op G).length≤4096∧eachR op G=evL op G:=by
 have h':=h
 unfold eachE at h
 split at h
 ·rename_i he
  split at h
  ·cases h
  ·rename_i hl
   exact⟨he,by omega,by unfold eachR;rw[if_pos h']⟩
 ·rename_i he;exact absurd h he
theorem op_rows{op:List Jp→Int×List Jp}(h0:(op []).1=0){l:List Ed}(hv:∀e∈l,mayR e.1=true)(h:evE op (byRows l)=0)(r:List Vl):(op (jmps l r)).1=0:=by
 by_cases hr:r∈rowsL l
 ·exact evE_all h (r,jmps l r) (List.mem_map.2 ⟨r,hr,rfl⟩)
 ·rw[mem_rows hv] at hr
  rw[Decidable.not_not.1 hr,h0]
theorem mayJ_rows{l:List Ed}(h:mayE l=true)(r:List Vl):mayJ (jmps l r)=true:=by
 obtain⟨-,h2,h3⟩:=mayE_iff.1 h
 by_cases hr:r∈rowsL l
 ·exact h3 (r,jmps l r) (by rw[grp_eq h2];exact List.mem_map.2 ⟨r,hr,rfl⟩)
 ·rw[mem_rows h2.1] at hr
  rw[Decidable.not_not.1 hr];exact mayJ_nil
theorem rise_rows(op:List Jp→Int×List Jp)(F:List Vl→List Jp):∀rows:List (List Vl),rows.Pairwise rlt→(∀r∈rows,mayR r=true)→Rise (evL op (rows.map fun q=>(q,F q)))
 |[],_,_=>⟨by simp[evL],List.Pairwise.nil⟩
 |q::rows,h,hv=>by
  have h':=List.pairwise_cons.1 h
  obtain⟨i1,i2⟩:=rise_rows op F rows h'.2 fun r hr=>hv r (by simp[hr])
  have e:evL op ((q::rows).map fun q=>(q,F q))=((op (F q)).2.map fun j=>(q,j))++evL op (rows.map fun q=>(q,F q)):=by simp[evL]
  rw[e]
  have hq:=hv q (by simp)
  refine⟨fun x hx=>?_,?_⟩
  ·rcases List.mem_append.1 hx with hx|hx
   ·obtain⟨j, -,rfl⟩:=List.mem_map.1 hx;exact hq
   ·exact i1 x hx
  ·rw[List.pairwise_append]
   refine⟨?_,i2,fun x hx y hy=>?_⟩
   ·rw[List.pairwise_map]
    refine List.Pairwise.imp (R:=fun _ _=>True) (fun _=>by rw[cmpT_self hq];exact Int.le_refl 0) ?_
    exact List.pairwise_of_forall (fun _ _=>trivial)
   ·obtain⟨j, -,rfl⟩:=List.mem_map.1 hx
    simp only[evL,List.mem_flatMap,List.mem_map] at hy
    obtain⟨g,⟨r,hr,rfl⟩,j', -,rfl⟩:=hy
    have:=(h'.1 r hr).2
    simp only
    omega
theorem rise_each(op:List Jp→Int×List Jp){l:List Ed}(hv:∀e∈l,mayR e.1=true):Rise (evL op (byRows l)) :=
 rise_rows op _ _ (rowsL_ok hv).1 fun r hr=>by obtain⟨e,he,rfl⟩:=((rowsL_ok hv).2 r).1 hr;exact hv e he
theorem may_each{op:List Jp→Int×List Jp}(h0:(op []).2=[]){l:List Ed}(hv:∀e∈l,mayR e.1=true)(hl:(evL op (byRows l)).length≤4096)(hj:∀r,mayJ (op (jmps l r)).2=true):mayE (evL op (byRows l))=true:=by
 have hr:=rise_each op hv
 rw[mayE_iff]
 refine⟨hl,hr,fun g hg=>?_⟩
 rw[((grp_rows hr).2.2 g hg).1,jmps_each h0 hv]
 exact hj g.1
theorem mp_zero{op:List Jp→Int×List Jp}{l:List Ed}(h:mpE op l=0):mayE l=true∧evE op (byRows l)=0∧mpR op l=evL op (byRows l):=by
 unfold mpE at h
 by_cases hm:mayE l=true
 ·rw[if_pos hm] at h
  obtain⟨h1, -,h3⟩:=each_zero h
  rw[grp_eq (mayE_rise hm)] at h1 h3
  exact⟨hm,h1,by unfold mpR;rw[if_pos hm,grp_eq (mayE_rise hm),h3]⟩
 ·rw[if_neg hm] at h;cases h
theorem ne_ok{l:List Ed}(h:∀e∈l,badE e=false∧nowJ e.2=false):neE l=eachE nmOp (byRows l):=by
 unfold neE
 have h1:l.any badE=false:=List.any_eq_false.2 fun e he=>by rw[(h e he).1];decide
 have h2:(l.any fun e=>nowJ e.2)=false:=List.any_eq_false.2 fun e he=>by rw[(h e he).2];decide
 rw[h1,h2,if_neg (by decide),if_neg (by decide)]
theorem ne_zero{l:List Ed}(h:neE l=0):(∀e∈l,badE e=false∧nowJ e.2=false)∧eachE nmOp (byRows l)=0∧neR l=evL nmOp (byRows l):=by
 have h':=h
 unfold neE at h
 cases h1:l.any badE
 ·cases h2:l.any fun e=>nowJ e.2
  ·rw[h1,h2,if_neg (by decide),if_neg (by decide)] at h
   refine⟨fun e he=>⟨by simpa using List.any_eq_false.1 h1 e he,by simpa using List.any_eq_false.1 h2 e he⟩,h,?_⟩
   unfold neR
   rw[if_pos h',(each_zero h).2.2]
  ·rw[h1,h2,if_neg (by decide),if_pos rfl] at h;cases h
 ·rw[h1,if_pos rfl] at h;cases h
theorem nmOp_nil:nmOp []=(0,[]):=by decide
theorem okJ_fine{j:Jp}(h:okJ j=true):tooJ j=false∧nowJ j=false:=by
 have:=okJ_iff.1 h
 unfold tooJ nowJ
 rw[decide_eq_false_iff_not,decide_eq_false_iff_not]
 omega
theorem may_fine{l:List Ed}(h:mayE l=true):∀e∈l,badE e=false∧nowJ e.2=false:=fun e he=>by
 obtain⟨-,h2, -, -⟩:=mayE_doc.1 h
 obtain⟨h3,h4⟩:=h2 e he
 obtain⟨h5,h6⟩:=okJ_fine h4
 refine⟨?_,h6⟩
 unfold badE
 rw[h3,h5];rfl
theorem nm_canon(l:List Jp):Canon (nmL l):=tell_canon _ _ _ (plc_asc _ _ Asc.nil')
end Go.Proofs.YtajelkkiijdegaaGreat
namespace Go.Proofs.YtajelkkiijdegaaGreat
open Go.RowKit
attribute [local go_sem] GW.cell GW.frozen In.eq_true In.le_true In.ne In.ne' In.ne_add In.ne_add' In.lt_add Upto.le_true Upto.le_add Upto.lt_add Oper.semAt_some wide_depth wide_fn
def cpOp(f:List Jp):Int×List Jp:=(0,f)
theorem copies_c(L:List Ve)(v:Value)(w:World)(hC:Ew w [] v L)(hL:L.length≤8192)(hG:∀g∈grp (eds L),g.1.length≤8∧g.2.length≤1024):Calls Tryz.prog 174 #[v] w fun e w'=>∃v' M,e= .returned v'∧eds M=eds L∧OwnEr w' w.heap.size v' M∧Ext w w':=by
 obtain⟨A,cap,rfl,hlc,hlm, -⟩:=ew_form hC
 unfold maxLen at hlm
 refine calls_marks Tryz.func174 rfl ?_
 simp only[Tryz.ntmps174,List.size_toArray,List.length_cons,List.length_nil,Nat.reduceAdd,Nat.reduceSub,Array.replicate_succ,Array.replicate_zero,List.push_toArray,List.append_toArray,List.nil_append,List.cons_append]
 have a3:Ob (w.alloc (.cells #[.slice none 0 0] 69)) w.heap.size 69 [.slice none 0 0]:=Ob.new w 69 [.slice none 0 0]
 have hX0:Ext w (w.alloc (.cells #[.slice none 0 0] 69)):=(Ext.refl w).alloc _
 have hGl:=grp_len (eds L)
 rw[List.length_map] at hGl
 replace hG:=hide hG
 replace hC:=hide hC
 go_wp2_with (go_at_call 120;refine (functions_c _ _ _ _).mono ?_;rintro ee w1 ⟨b,rfl,hb,hle,hX1⟩)
 have hX2:=hide (hX0.trans hX1)
 have p3:=a3.ext hX1
 have hz2:=hX2.out.size
 obtain⟨b3,hb3⟩:∃b3,w.heap.size=b3:=⟨_,rfl⟩
 rw[hb3] at p3
 clear a3 hle hX0 hX1
 refine wp_range (xs:=grp (eds L)) rfl (enters_of Tryz.func173 (by kernel_rfl) rfl) (functions_seq L _ w w1 b hC.out (by omega) hX2.out hb) (Ext.refl _) hX2.out.size (fun x vs W h=>h.size) (fun x vs=>Hg.stab x vs)
  (fun k W=>(∃mv,∃M:List Ve,(Ob W b3 69 [mv]∧(OwnE W (b3+1) mv M∧∀p,∀(_:p∈M),Rw W (ob mv++List.range (b3+1)) p.1 p.2.1))∧(eds M=evL cpOp ((grp (eds L)).take k)∧M.length≤1024*k))∧Ext w W)
  (fun c k W=>False∧Ext w W)
  (fun k=>(Stab.ex fun mv=>Stab.ex fun M=>((Stab.ob _ _ _).and ((Stab.own _ _ _ _ _ _).and (Stab.all fun p=>Stab.all fun _=>Stab.sl _ _ _ _ _))).and (Stab.pure _)).and (Stab.of_ext hz2))
  (fun c k=>(Stab.pure _).and (Stab.of_ext hz2))
  ⟨⟨_,[],⟨p3,World.ownsRow_nil _ _ _ _,by simp⟩,by simp[evL,eds],by simp⟩,hX2.out⟩
  (fun k x vs a' _=>∃r f,vs= #[r,f]∧a'={ tmps:= #[.slice A L.length cap,undef, .slice none 0 0, .pointer (some ⟨b3,0,none⟩),r,f, .slice A L.length cap, .func (.func 173) #[] #[.pointer (some ⟨b,0,none⟩)],r,f,undef,undef,undef,undef,undef,undef],defers:=[]})
  (fun k x vs a'=>Stab.pure _) ?assign ?body ?done ?stop
 case assign =>
  rintro LL k x vs W K _ ⟨r,f,rfl, -, -⟩ hK
  gi_wp2
  exact hK _ _ (Ext.refl _) ⟨r,f,rfl,by rw[←hb3]⟩
 case body =>
  rintro LL k x vs a' W hx ⟨⟨mv,M,⟨o3,hMo,hMr⟩,hMe,hMl⟩,hXw⟩ ⟨r',f',e',hr,hf⟩ ⟨r,f,rfl,rfl⟩
  obtain⟨rfl,rfl⟩:r=r'∧f=f':=by simpa using e'
  obtain⟨q,J⟩:=x
  have hgm:(q,J)∈grp (eds L):=List.mem_of_getElem? hx
  have hkl:=(List.getElem?_eq_some_iff.1 hx).1
  obtain⟨h8,hJl⟩:=hG.out (q,J) hgm
  simp only at h8 hJl
  have hb3W:=o3.lt
  have hzW:=hXw.size
  have hfk:=hide hf
  obtain⟨JA,jcap,rfl, -, -, -⟩:=jw_form hf
  obtain⟨RA,rcap,rfl⟩:=rw_val hr
  have hnx:=hide (show evL cpOp ((grp (eds L)).take (k+1))=evL cpOp ((grp (eds L)).take k)++J.map fun j=>(q,j) by rw[List.take_add_one,hx,Option.toList_some,evL_snoc];rfl)
  replace hMe:=hide hMe
  clear hx hgm hf
  obtain⟨MA,mcap,rfl⟩:=own_form hMo
  have hM0:OwnEr W (b3+1) (.slice MA M.length mcap) M:=⟨hMo,fun p hp=>hMr p hp⟩
  replace hM0:=hide hM0
  clear hMo hMr
  have q3:=hide (o3.cell 0 rfl)
  have hed:=hide (fun w' (hX':Ext W w')=>edgesOf_c q J (.slice RA q.length rcap) (.slice JA J.length jcap) w' (Sl.ext hr hX') h8 (Sl.ext hfk.out hX') (by omega))
  try gi_wp2_with fail
  refine wpIn_region_list_tail 4 [(.is (.slice MA M.length mcap)),(.is (.slice RA q.length rcap)),(.is (.slice JA J.length jcap)),ownF W.heap.size q J] (by kernel_rfl) (by kernel_rfl) (by kernel_rfl) (by kernel_rfl) (by kernel_rfl) (by kernel_rfl) (by kernel_rfl) (by kernel_rfl) ?_ ?_
  ·refine⟨?_,?_,?_,?_,trivial⟩
   ·intro b w' h hE
    have f3:b.tmps.getD 3 undef= .pointer (some ⟨b3,0,none⟩):=hE 3 (of_decide_eq_true (by kernel_rfl))
    have c0:=cell_later h.ext q3.out
    exact good_load (wanted_none rfl) rfl f3 (by simp[go_sem,c0]) rfl
   ·intro b w' h hE
    have f4:b.tmps.getD 4 undef= .slice RA q.length rcap:=hE 4 (of_decide_eq_true (by kernel_rfl))
    exact good_move (wanted_none rfl) rfl f4
   ·intro b w' h hE
    have f5:b.tmps.getD 5 undef= .slice JA J.length jcap:=hE 5 (of_decide_eq_true (by kernel_rfl))
    exact good_move (wanted_none rfl) rfl f5
   ·intro b w' h hE
    have f11:b.tmps.getD 11 undef= .slice RA q.length rcap:=h.dep 1 _ 11 (by kernel_rfl) rfl rfl
    have g11:b.tmps[11]?.getD undef= .slice RA q.length rcap:=by rw[←Array.getD_eq_getD_getElem?];exact f11
    have f12:b.tmps.getD 12 undef= .slice JA J.length jcap:=h.dep 2 _ 12 (by kernel_rfl) rfl rfl
    have g12:b.tmps[12]?.getD undef= .slice JA J.length jcap:=by rw[←Array.getD_eq_getD_getElem?];exact f12
    refine good_call (wanted_none rfl) rfl (enters Tryz.func132 (by kernel_rfl) rfl) ?_
    rw[show (#[.tmp 11, .tmp 12]:Array Operand).map b.eval= #[.slice RA q.length rcap, .slice JA J.length jcap] by simp[Act.eval,g11,g12]]
    exact (hed.out w' h.ext).mono fun e w1 ⟨v,M2,he,hM2,ho,hx⟩=>⟨v,he,⟨M2,hM2,ho.lower h.ext.size⟩,hx⟩
  ·intro b w2 hX2 hd hz he' hf
   have e10:b.tmps.getD 10 undef= .slice MA M.length mcap:=hf 0 _ 10 (by omega) rfl rfl
   have e11:b.tmps.getD 11 undef= .slice RA q.length rcap:=hf 1 _ 11 (by omega) rfl rfl
   have e12:b.tmps.getD 12 undef= .slice JA J.length jcap:=hf 2 _ 12 (by omega) rfl rfl
   have f13:∃M2,eds M2=J.map (fun j=>(q,j))∧OwnEr w2 W.heap.size (b.tmps.getD 13 undef) M2:=hf 3 _ 13 (by omega) rfl rfl
   have e:=frame_puts hd hz he'
   obtain⟨X,hXx⟩:∃X:Nat→Value,∀d,b.tmps.getD d undef=X d:=⟨_,fun _=>rfl⟩
   rw[hXx] at e10 e11 e12 f13
   obtain⟨M2,hM2,f13⟩:=f13
   obtain⟨A13,c13,q13⟩:=own_form f13.1
   rw[show dstsOf _=[10,11,12,13] from rfl] at e
   simp only[List.foldl_cons,List.foldl_nil,hXx,Act.put,List.setIfInBounds_toArray,List.set_cons_succ,List.set_cons_zero] at e
   rw[e10,e11,e12,q13] at e
   rw[q13] at f13
   replace f13:=hide f13
   clear hf he' hz hd hXx e10 e11 e12 q13
   subst e
   have hzw:=hX2.size
   simp only[List.drop_succ_cons,List.drop_zero]
   have hl2:M2.length=J.length:=by have:=congrArg List.length hM2;simpa [eds] using this
   have o3b:=hide (o3.ext hX2)
   have hMb:=hide (hM0.out.ext hX2)
   have hno:=Ob.not_own o3b.out hMb.out.1 (by decide)
   replace hM2:=hide hM2
   replace hl2:=hide hl2
   go_wp2_with (at_builtin;(refine wpl_app tEdg rfl (.tmp 10) (.tmp 13) rfl rfl hMb.out.1 rfl (src_sl Tryz.underlying69 f13.out.ew.1 (Ew.one f13.out.ew) (by omega)) (by unfold maxLen;have:=hl2.out;omega) (by have:=hl2.out;omega) (by omega) ?_;intro v8 w8 ho8 hg8 hob8;obtain⟨A8,c8,rfl⟩:=own_form ho8;have o3c:=o3b.out.grown hg8 (Ne.symm hno);have k3:=o3c.cell 0 rfl;have f3:=o3c.free 0;have hlt3:=o3c.lt;haveI:In b3 w8:=⟨hlt3⟩))
   have hM8:OwnEr w8 (b3+1) (.slice A8 (M.length+M2.length) c8) (M++M2):=hMb.out.app (own_appE ho8) hg8 hob8 (fun p hp=>⟨_,f13.out.2 p hp,fun q hq=>List.mem_append_right _ (List.mem_range.2 (by
    rcases List.mem_append.1 hq with hq|hq
    ·have:=(ob_ge hM0.out.1 q hq).2;omega
    ·have:=List.mem_range.1 hq;omega))⟩)
   have hFr:Fr (ob (Value.slice MA M.length mcap)++[b3]) W (w8.setCell ⟨b3,0,none⟩ (.slice A8 (M.length+M2.length) c8)):=((Fr.of_ext hX2).grown hg8 (fun k hk=> .inl (List.mem_append_left _ (by unfold ob;rw[show (Value.slice MA M.length mcap).ownBlock=some k from hk];exact List.mem_singleton.2 rfl)))).setCell ⟨b3,0,none⟩ _ (.inl (by simp))
   have hge:∀y∈ob (Value.slice MA M.length mcap)++[b3],w.heap.size≤y:=fun y hy=>by
    rcases List.mem_append.1 hy with hy|hy
    ·have:=(ob_ge hM0.out.1 y hy).1;omega
    ·obtain rfl:=List.mem_singleton.1 hy;omega
   have hcl:∀y∈ob (Value.slice MA M.length mcap)++[b3],∃T vs,Ob W y T vs:=fun y hy=>by
    rcases List.mem_append.1 hy with hy|hy
    ·exact ob_obj hM0.out.1 y hy
    ·obtain rfl:=List.mem_singleton.1 hy;exact⟨_,_,o3⟩
   have hXe:Ext w (w8.setCell ⟨b3,0,none⟩ (.slice A8 (M.length+M2.length) c8)):=(ext_grown (hXw.trans hX2) hg8 (fun k hk=>by have:=(hM0.out.1.lt k hk).1;omega)).setCell (p:=⟨b3,0,none⟩) (by show w.heap.size≤b3;omega) _
   have hF3:Fr [b3] w8 (w8.setCell ⟨b3,0,none⟩ (.slice A8 (M.length+M2.length) c8)):=(Fr.refl [b3] w8).setCell ⟨b3,0,none⟩ _ (.inl (by simp))
   exact show KeepsFrom _ W _∧Below w.heap.size W _∧_ from ⟨keeps_fr hFr hcl,below_fr hFr hzW hge,
    ⟨_,M++M2,⟨o3c.set 0 _,own_fr hM8.1 hF3 (by simp),fun p hp=>Sl.set (hM8.2 p hp) _ _ (List.mem_append_right _ (List.mem_range.2 (by show b3<b3+1;omega)))⟩,
     by show eds (M++M2)=_;rw[hnx.out,←hMe.out,←hM2.out];simp[eds],by have:=hl2.out;rw[List.length_append];omega⟩,hXe⟩
 case done =>
  rintro D W hD ⟨⟨mv,M,⟨o3,hMo,hMr⟩,hMe,hMl⟩,hXw⟩ hK
  rw[List.take_of_length_le (Nat.le_refl _),show cpOp=fun f=>(0,f) from rfl,grp_back] at hMe
  have q3:=o3.cell 0 rfl
  have l3:=o3.lt
  obtain⟨MA,mcap,rfl⟩:=own_form hMo
  have hM0:OwnEr W (b3+1) (.slice MA M.length mcap) M:=⟨hMo,fun p hp=>hMr p hp⟩
  replace hM0:=hide hM0
  replace hMe:=hide hMe
  clear hMo hMr
  subst hb3
  go_wp2
  have hM2:OwnEr (W.putObj D (.deferred none)) (w.heap.size+1) (.slice MA M.length mcap) M :=
   ⟨(Stab.own (B:=0) _ _ _ _ _ _).put _ D _ _ hM0.out.1 (Nat.zero_le _) hK rfl,fun p hp=>(Stab.sl (B:=0) _ _ _ _ _).put _ D _ _ (hM0.out.2 p hp) (Nat.zero_le _) hK rfl⟩
  refine ret_mark hK (v:= .slice MA M.length mcap) ?_ ⟨_,M,rfl,hMe.out,hM2.lower (by omega),put_ext hXw (by omega) _⟩
  simp[results,Tryz.f174,go_sem]
 case stop =>
  rintro D c k W hD hk ⟨h, -⟩ hK
  exact h.elim
theorem grp_len2:∀l:List Ed,(grp l).length≤l.length
 |[]=>Nat.le_refl _
 |e::l=>by
  have ih:=grp_len2 l
  rw[grp]
  split
  ·simp
  ·rename_i q f t h
   rw[h] at ih
   split<;>simp only[List.length_cons] at ih ⊢ <;> omega
def GrPost(w:World)(L:List Ve)(b:Nat)(w':World):Prop:=∃v' M,Ob w' b 69 [v']∧eds M=(if mayE (eds L) then eds L else [])∧Ew w' [] v' M∧Ext w w'
theorem groups_c(L:List Ve)(v:Value)(w:World)(hC:Ew w [] v L):Calls Tryz.prog 122 #[v] w fun e w'=>∃b,e= .returned (.func (.func 175) #[] #[.pointer (some ⟨b,0,none⟩)])∧GrPost w L b w':=by
 have h1:=hide (fun w' (hX:Ext w w')=>edgeMay_c L v w' (hC.ext hX))
 have hC':=hide hC
 obtain⟨A,cap,rfl,hlc,hlm, -⟩:=ew_form hC
 have a3:Ob (w.alloc (.cells #[.slice none 0 0] 69)) w.heap.size 69 [.slice none 0 0]:=Ob.new w 69 [.slice none 0 0]
 have hX0:=hide ((Ext.refl w).alloc (.cells #[.slice none 0 0] 69))
 replace a3:=hide a3
 clear hC
 cases ha:mayE (eds L)
 ·rw[ha] at h1
  go_enter Tryz.func122,Tryz.ntmps122
  go_wp2_with (go_at_call 62;(with_reducible refine seq_gw (h1.out _ hX0.out) ?_);intro g)
  go_returns
  exact⟨_,rfl,show GrPost _ _ _ _ from ⟨_,[],a3.out.ext g.grown,by rw[ha];rfl,⟨Sl.nil _ _ _,by simp⟩,hX0.out.trans g.grown⟩⟩
 ·rw[ha] at h1
  have hll:L.length≤8192:=by have:=mayE_len ha;simp[eds] at this;omega
  have hG:=hide (show ∀g∈grp (eds L),g.1.length≤8∧g.2.length≤1024 from fun g hg=>⟨grp_r8 ha g hg,mayJ_len ((mayE_iff.1 ha).2.2 g hg)⟩)
  have hcp:=hide (fun w' (hX:Ext w w')=>copies_c L (.slice A L.length cap) w' (hC'.out.ext hX) hll hG.out)
  have ha':=hide ha
  clear ha
  go_enter Tryz.func122,Tryz.ntmps122
  go_wp2_with (first
   |(go_at_call 62;(with_reducible refine seq_gw (h1.out _ hX0.out) ?_);intro g)
   |(go_at_call 174;refine (hcp.out _ (hX0.out.trans g.grown)).mono ?_;rintro ee w2 ⟨v2,M,rfl,hM,ho2,hx2⟩;have o3:=(a3.out.ext g.grown).ext hx2;have hlt3:=o3.lt;have hc3:=o3.cell 0 rfl;have hfr3:=o3.free 0;obtain⟨C2,c2,q2⟩:=own_form ho2.1;subst q2;haveI:In w.heap.size w2:=⟨hlt3⟩))
  go_returns
  have hlg:w.heap.size<g.val.heap.size:=by have:=(a3.out.ext g.grown).lt;exact this
  have he:Ew w2 [w.heap.size] (.slice C2 M.length c2) M:=⟨Sl.own ho2.1 (fun x hx=>by simp at hx;omega),fun p hp=>Sl.less (ho2.2 p hp) (fun x hx=>by simp at hx;subst hx;exact List.mem_append_right _ (List.mem_range.2 hlg))⟩
  refine⟨_,rfl,show GrPost _ _ _ _ from ⟨_,M,o3.set 0 _,by rw[hM,ha'.out];rfl,(he.fr ((Fr.refl [w.heap.size] w2).setCell ⟨w.heap.size,0,none⟩ _ (.inl (by simp))) (fun _ h=>h)).less (by simp),((hX0.out.trans g.grown).trans hx2).setCell (p:=⟨w.heap.size,0,none⟩) (by simp) _⟩⟩
end Go.Proofs.YtajelkkiijdegaaGreat
