/-
  A helper of ours: no claim of its own. The whole, T1 and T4 (lists): a table that takes the changes of a stream and forgets what is ahead of each mark.
-/
import Derived.Test.YtajelkkiijdegaaGreatPakI
import Derived.Test.YtajelkkiijdegaaGreatFolZ
import Derived.Test.YtajelkkiijdegaaGreatEdgEa
import Derived.Test.YtajelkkiijdegaaGreatBagS
import Derived.Test.YtajelkkiijdegaaGreatMsgA
set_option linter.unusedVariables false
set_option linter.unusedSimpArgs false
set_option linter.unusedSectionVars false
set_option maxHeartbeats 64000000
set_option maxRecDepth 100000
namespace Go.Proofs.YtajelkkiijdegaaGreat
open Go.RowKit
theorem jmps_ends(A:List Ed)(r:List Vl):jmps (endsE A) r=spj (jmps A r):=by
 induction A with
 |nil=>rfl
 |cons e A ih =>
  have e1:endsE (e::A)=(e.1,(e.2.1,1))::(e.1,(e.2.2, -1))::endsE A:=rfl
  rw[e1,jmps_cons,jmps_cons,ih,jmps_cons]
  by_cases h:e.1=r
  ·simp only[if_pos h];rfl
  ·simp only[if_neg h]
theorem mayPc_sp{e:Ed}(h:mayPc e=true):mayR e.1=true∧ -1≤e.2.1∧e.2.1<e.2.2∧e.2.2≤1125899906842624:=by
 unfold mayPc smayB isTickB fbB at h
 rw[Bool.and_eq_true,Bool.or_eq_true,Bool.and_eq_true,Bool.and_eq_true,Bool.and_eq_true,Bool.and_eq_true,decide_eq_true_iff,decide_eq_true_iff,decide_eq_true_iff,decide_eq_true_iff,decide_eq_true_iff,decide_eq_true_iff] at h
 refine⟨h.1,?_⟩
 have:=h.2
 omega
theorem mayPc_of{q:List Vl}{a b:Int}(hq:mayR q=true)(h1: -1≤a)(h2:a<b)(h3:b≤1125899906842624):mayPc (q,(a,b))=true:=by
 unfold mayPc smayB isTickB fbB
 rw[Bool.and_eq_true,Bool.or_eq_true,Bool.and_eq_true,Bool.and_eq_true,Bool.and_eq_true,Bool.and_eq_true,decide_eq_true_iff,decide_eq_true_iff,decide_eq_true_iff,decide_eq_true_iff,decide_eq_true_iff,decide_eq_true_iff]
 simp only
 exact⟨hq,by omega⟩
theorem pc_rng{C:List Ed}(h:C.all mayPc=true)(r:List Vl):∀s∈jmps C r, -1≤s.1∧s.1<s.2∧s.2≤1125899906842624:=fun s hs=>(mayPc_sp (List.all_eq_true.1 h _ (jmps_mem.1 hs))).2
theorem ends_mem{C:List Ed}{e:Ed}(h:e∈endsE C):∃p∈C,e.1=p.1∧(e.2=(p.2.1,1)∨e.2=(p.2.2, -1)):=by
 obtain⟨p,hp,h⟩:=List.mem_flatMap.1 h
 simp only[List.mem_cons,List.not_mem_nil,or_false] at h
 rcases h with rfl|rfl
 ·exact⟨p,hp,rfl, .inl rfl⟩
 ·exact⟨p,hp,rfl, .inr rfl⟩
theorem ends_len(C:List Ed):(endsE C).length=2*C.length:=by
 induction C with
 |nil=>rfl
 |cons e C ih =>
  have e1:endsE (e::C)=(e.1,(e.2.1,1))::(e.1,(e.2.2, -1))::endsE C:=rfl
  rw[e1,List.length_cons,List.length_cons,ih,List.length_cons];omega
theorem ends_row{C:List Ed}(h:C.all mayPc=true):∀e∈endsE C,mayR e.1=true:=fun e he=>by
 obtain⟨p,hp,e1, -⟩:=ends_mem he
 rw[e1];exact (mayPc_sp (List.all_eq_true.1 h p hp)).1
theorem ends_fine{C:List Ed}(h:C.all mayPc=true):∀e∈endsE C,badE e=false∧nowJ e.2=false:=fun e he=>by
 have hr:=ends_row h e he
 obtain⟨p,hp,e1,e2⟩:=ends_mem he
 have hs:=mayPc_sp (List.all_eq_true.1 h p hp)
 unfold badE tooJ nowJ
 rw[hr,Bool.not_true,Bool.false_or,decide_eq_false_iff_not,decide_eq_false_iff_not]
 rcases e2 with e2|e2<;>(rw [e2];simp only;omega)
theorem nm_zero{g:List Jp}(h:(nmOp g).1=0):mayJ (nmL g)=true∧(nmOp g).2=nmL g:=by
 have hE:nmE g=0:=h
 refine⟨?_,by show nmR g=_;unfold nmR;rw[if_pos hE]⟩
 unfold nmE at hE
 split at hE
 ·cases hE
 ·split at hE
  ·cases hE
  ·exact full_zero.1 hE
theorem pk_of{C E:List Ed}(hC:C.all mayPc=true)(h4:C.length≤4096)(hE:mayE E=true)(h:∀r,nmOp (spj (jmps C r))=(0,jmps E r)):pkE C=0∧pkR C=E:=by
 have hfine:=ends_fine hC
 have hv:=ends_row hC
 have o2:(nmOp []).2=[]:=by rw[nmOp_nil]
 have hev:evE nmOp (byRows (endsE C))=0:=evE_ok fun g hg=>by
  obtain⟨r, -,rfl⟩:=List.mem_map.1 hg
  simp only
  rw[jmps_ends,h r]
 have hz:evL nmOp (byRows (endsE C))=E:=ed_ext (rise_each nmOp hv) (mayE_rise hE) fun r=>by rw[jmps_each o2 hv,jmps_ends,h r]
 have he:eachE nmOp (byRows (endsE C))=0:=by
  unfold eachE
  have:=mayE_len hE
  rw[if_pos hev,hz,if_neg (by omega)]
 have hne:neE (endsE C)=0:=by rw[ne_ok hfine,he]
 have hp:pkE C=0:=by unfold pkE;rw[hC,if_pos rfl,if_neg (by omega),hne]
 exact⟨hp,by unfold pkR;rw[if_pos hp,(ne_zero hne).2.2,hz]⟩
theorem pk_zero{C:List Ed}(h:pkE C=0):C.all mayPc=true∧C.length≤4096∧mayE (pkR C)=true∧∀r,nmOp (spj (jmps C r))=(0,jmps (pkR C) r):=by
 have h':=h
 unfold pkE at h
 by_cases hC:C.all mayPc=true
 ·rw[if_pos hC] at h
  by_cases h4:4096<C.length
  ·rw[if_pos h4] at h;cases h
  ·rw[if_neg h4] at h
   have hv:=ends_row hC
   have o1:(nmOp []).1=0:=by rw[nmOp_nil]
   have o2:(nmOp []).2=[]:=by rw[nmOp_nil]
   obtain⟨q1,q2,q3⟩:=ne_zero h
   obtain⟨q4,q5,q6⟩:=each_zero q2
   have hx:pkR C=evL nmOp (byRows (endsE C)):=by unfold pkR;rw[if_pos h',q3]
   have hk:∀r,(nmOp (jmps (endsE C) r)).1=0:=op_rows o1 hv q4
   refine⟨hC,by omega,?_,fun r=>?_⟩
   ·rw[hx]
    refine may_each o2 hv q5 fun r=>?_
    obtain⟨k1,k2⟩:=nm_zero (hk r)
    rw[k2];exact k1
   ·rw[hx,jmps_each o2 hv,jmps_ends]
    have k:=hk r
    rw[jmps_ends] at k
    exact Prod.ext k rfl
 ·rw[if_neg hC] at h;cases h
theorem pk_row{C:List Ed}(h:pkE C=0)(r:List Vl):jmps (pkR C) r=nmL (spj (jmps C r)):=by
 have h1:=(pk_zero h).2.2.2 r
 have h2:=(nm_zero (g:=spj (jmps C r)) (by rw[h1])).2
 rw[h1] at h2
 exact h2
def lfOp(f:List Jp):Int×List Jp:=(0,lifeL f)
theorem pieces_ev{E:List Ed}(hr:Rise E):piecesL (grp E)=evL lfOp (byRows E):=by rw[←grp_eq hr];rfl
theorem pieces_rise{E:List Ed}(hr:Rise E):Rise (piecesL (grp E)):=by rw[pieces_ev hr];exact rise_each lfOp hr.1
theorem jmps_pieces{E:List Ed}(hr:Rise E)(r:List Vl):jmps (piecesL (grp E)) r=lifeL (jmps E r):=by
 rw[pieces_ev hr,jmps_each (op:=lfOp) rfl hr.1];rfl
theorem tab_may{E:List Ed}(h:tabE E=true):mayE E=true:=by
 unfold tabE at h
 rw[Bool.and_eq_true] at h
 exact h.1
theorem tab_le{E:List Ed}(h:tabE E=true)(r:List Vl):0≤leV (jmps E r):=by
 have hm:=tab_may h
 unfold tabE at h
 rw[Bool.and_eq_true,List.all_eq_true] at h
 by_cases hr:r∈rowsL E
 ·have:=h.2 (r,jmps E r) (by rw[grp_eq (mayE_rise hm)];exact List.mem_map.2 ⟨r,hr,rfl⟩)
  simpa using this
 ·rw[mem_rows (mayE_rise hm).1] at hr
  rw[Decidable.not_not.1 hr]
  decide
theorem pieces_may{E:List Ed}(h:tabE E=true):(piecesL (grp E)).all mayPc=true:=by
 have hm:=tab_may h
 rw[List.all_eq_true]
 intro e he
 have h1:e.2∈jmps (piecesL (grp E)) e.1:=jmps_mem.2 he
 rw[jmps_pieces (mayE_rise hm)] at h1
 obtain⟨q,a,b⟩:=e
 have h2:=(life_ok (mayJ_rows hm _) (tab_le h _)).rng _ h1
 exact mayPc_of ((pieces_rise (mayE_rise hm)).1 _ he) h2.1 h2.2.1 h2.2.2
theorem pk_back{E:List Ed}(h:tabE E=true)(h4:(piecesL (grp E)).length≤4096):pkE (piecesL (grp E))=0∧pkR (piecesL (grp E))=E:=by
 have hm:=tab_may h
 exact pk_of (pieces_may h) h4 hm fun r=>by rw[jmps_pieces (mayE_rise hm)];exact life_nm (mayJ_rows hm r) (tab_le h r)
theorem split_len(q:List Vl)(X:List Ed):(jmps X q).length+(X.filter fun e=>decide (e.1≠q)).length=X.length:=by
 induction X with
 |nil=>rfl
 |cons e X ih =>
  rw[jmps_cons,List.filter_cons]
  by_cases h:e.1=q
  ·rw[if_pos h,if_neg (by simpa using h),List.length_cons,List.length_cons];omega
  ·rw[if_neg h,if_pos (by simpa using h),List.length_cons,List.length_cons];omega
theorem jmps_other{q r:List Vl}(h:q≠r)(X:List Ed):jmps (X.filter fun e=>decide (e.1≠q)) r=jmps X r:=by
 induction X with
 |nil=>rfl
 |cons e X ih =>
  rw[List.filter_cons,jmps_cons]
  by_cases h1:e.1=q
  ·rw[if_neg (by simpa using h1),ih,if_neg (by rw[h1];exact h)]
  ·rw[if_pos (by simpa using h1),jmps_cons,ih]
theorem len_rows(F:List Vl→List Jp):∀(rows:List (List Vl)) (X:List Ed),rows.Pairwise rlt→(∀r∈rows,(F r).length≤(jmps X r).length)→(rows.flatMap fun q=>(F q).map fun j=>(q,j)).length≤X.length
 |[],X,_,_=>by simp
 |q::rows,X,h,k=>by
  obtain⟨h1,h2⟩:=List.pairwise_cons.1 h
  have ih:=len_rows F rows (X.filter fun e=>decide (e.1≠q)) h2 fun r hr=>by
   rw[jmps_other (rlt_ne (h1 r hr))]
   exact k r (by simp[hr])
  have h3:=k q (by simp)
  have h4:=split_len q X
  rw[List.flatMap_cons,List.length_append,List.length_map]
  omega
theorem ev_flat(op:List Jp→Int×List Jp)(E:List Ed):evL op (byRows E)=(rowsL E).flatMap fun q=>((op (jmps E q)).2).map fun j=>(q,j):=by
 unfold evL byRows
 rw[List.flatMap_map]
theorem pieces_len{X:List Ed}(h:pkE X=0):(piecesL (grp (pkR X))).length≤X.length:=by
 obtain⟨hC, -,hE, -⟩:=pk_zero h
 rw[pieces_ev (mayE_rise hE),ev_flat]
 refine len_rows (fun q=>(lfOp (jmps (pkR X) q)).2) _ _ (rowsL_ok (mayE_rise hE).1).1 fun r _=>?_
 show (lifeL (jmps (pkR X) r)).length≤_
 rw[pk_row h r]
 exact nm_cnt (pc_rng hC r)
theorem pk_tab{X:List Ed}(h:pkE X=0):tabE (pkR X)=true:=by
 obtain⟨hC, -,hE, -⟩:=pk_zero h
 unfold tabE
 rw[hE,Bool.true_and,List.all_eq_true]
 intro g hg
 have h1:=((grp_rows (mayE_rise hE)).2.2 g hg).1
 rw[decide_eq_true_iff,h1]
 refine leV_pos (fun t ht=>?_) (mayJ_rows hE g.1)
 have hr:=pc_rng hC g.1
 rw[pk_row h,nmL_val _ (fun j hj=>(okS_fine hr j hj).2) t ht]
 exact jv_pos (fun s hs=>(hr s hs).2.1) t
theorem pc_ok{X:List Ed}(h:pkE X=0):pcE (pkR X)=0:=by
 obtain⟨hC,h4,hE, -⟩:=pk_zero h
 have:=pieces_len h
 unfold pcE
 rw[if_pos hE,if_pos (pk_tab h),if_neg (by omega)]
theorem pp_eq(X:List Ed):ppE X=pkE X:=by
 unfold ppE
 by_cases h:pkE X=0
 ·rw[if_pos h,h,pc_ok h]
 ·rw[if_neg h]
theorem pp_ok{X:List Ed}(h:pkE X=0):ppR X=piecesL (grp (pkR X)):=by
 unfold ppR pcR
 rw[if_pos h,if_pos (pc_ok h)]
def aliveL(r:List Vl)(t:Int):List Ed→Int
 |[]=>0
 |e::l=>(if e.1=r∧e.2.1≤t∧t<e.2.2 then 1 else 0)+aliveL r t l
theorem alive_jv{C:List Ed}(h:C.all mayPc=true)(r:List Vl)(t:Int):aliveL r t C=jv (spj (jmps C r)) t:=by
 induction C with
 |nil=>rfl
 |cons e C ih =>
  rw[List.all_cons,Bool.and_eq_true] at h
  have h1:=mayPc_sp h.1
  rw[aliveL,ih h.2,jmps_cons]
  by_cases hr:e.1=r
  ·rw[if_pos hr,spj_cons,jv,jv]
   simp only
   by_cases h2:e.2.1≤t
   ·by_cases h3:t<e.2.2
    ·rw[if_pos ⟨hr,h2,h3⟩,if_pos h2,if_neg (by omega)];omega
    ·rw[if_neg (fun k=>h3 k.2.2),if_pos h2,if_pos (by omega)];omega
   ·rw[if_neg (fun k=>h2 k.2.1),if_neg h2,if_neg (by omega)];omega
  ·rw[if_neg hr,if_neg (fun k=>hr k.1)];omega
theorem alive_pack{X:List Ed}(h:pkE X=0)(r:List Vl){t:Int}(ht:t<1125899906842624):aliveL r t (ppR X)=aliveL r t X∧jv (jmps (pkR X) r) t=aliveL r t X:=by
 obtain⟨hC,h4,hE, -⟩:=pk_zero h
 have hl:=pieces_len h
 have htab:=pk_tab h
 have hr:=pc_rng hC r
 have e1:jv (jmps (pkR X) r) t=aliveL r t X:=by rw[alive_jv hC,pk_row h,nmL_val _ (fun j hj=>(okS_fine hr j hj).2) t ht]
 refine⟨?_,e1⟩
 rw[pp_ok h,alive_jv (pieces_may htab),jmps_pieces (mayE_rise hE),life_jv (end_le (mayJ_rows hE r) (tab_le htab r)) ht,e1]
theorem pnm_len(g:List Jp):(nmOp g).2.length≤g.length:=by
 have hlen:∀(v:Int→Int) (ps:List Int) (was:Int),(tell v ps was).length≤ps.length:=by
  intro v ps
  induction ps with
  |nil=>intro was;simp[tell]
  |cons p r ih =>
   intro was
   rw[tell]
   split
   ·have:=ih (v p);rw[List.length_cons];omega
   ·have:=ih (v p);rw[List.length_cons,List.length_cons];omega
 have h1:=hlen (jv g) (plc [] (inF g)) 0
 have h2:=plc_length (inF g) [] Asc.nil'
 have h3:(inF g).length≤g.length:=List.length_filter_le _ _
 have h4:(nmL g).length≤(plc [] (inF g)).length:=h1
 simp only[List.length_nil] at h2
 show (nmR g).length≤_
 unfold nmR
 split
 ·omega
 ·simp
theorem pk_few{C:List Ed}(hC:C.all mayPc=true)(hl:C.length≤512):pkE C=0:=by
 have hv:=ends_row hC
 have hn:∀r,(nmOp (jmps (endsE C) r)).1=0:=fun r=>by
  have hr:=pc_rng hC r
  have hjl:(jmps C r).length≤512:=Nat.le_trans (jmps_le C r) hl
  rw[jmps_ends,nm_fine (okS_fine hr) rfl (few_may hr hjl)]
 have hev:evE nmOp (byRows (endsE C))=0:=evE_ok fun g hg=>by
  obtain⟨r, -,rfl⟩:=List.mem_map.1 hg
  exact hn r
 have hlen:(evL nmOp (byRows (endsE C))).length≤(endsE C).length:=by
  rw[ev_flat]
  exact len_rows (fun q=>(nmOp (jmps (endsE C) q)).2) _ _ (rowsL_ok hv).1 fun r _=>pnm_len _
 rw[ends_len] at hlen
 have he:eachE nmOp (byRows (endsE C))=0:=by
  unfold eachE
  rw[if_pos hev,if_neg (by omega)]
 unfold pkE
 rw[hC,if_pos rfl,if_neg (by omega),ne_ok (ends_fine hC),he]
end Go.Proofs.YtajelkkiijdegaaGreat
namespace Go.Proofs.YtajelkkiijdegaaGreat
open Go.RowKit
attribute [local go_sem] GW.cell GW.frozen In.eq_true In.le_true In.ne In.ne' In.ne_add In.ne_add' In.lt_add Upto.le_true Upto.le_add Upto.lt_add
end Go.Proofs.YtajelkkiijdegaaGreat
namespace Go.Proofs.YtajelkkiijdegaaGreat
open Go.RowKit
def indE(q:List Vl)(s:Int)(e:Ev):Int:=if e.1.2=q∧e.2.2=false∧e.2.1.1≤s∧s<e.2.1.2 then 1 else 0
def valE(q:List Vl)(s:Int):List Ev→Int
 |[]=>0
 |e::r=>indE q s e+valE q s r
theorem valE_app(q:List Vl)(s:Int):∀a b:List Ev,valE q s (a++b)=valE q s a+valE q s b
 |[],b=>by simp[valE]
 |e::r,b=>by simp only[List.cons_append,valE];rw[valE_app q s r b];omega
theorem valE_set(q:List Vl)(s:Int):∀(l:List Ev) (j:Nat) (e e':Ev),l[j]? = some e→valE q s (l.set j e')=valE q s l-indE q s e+indE q s e'
 |x::r,0,e,e',h=>by
  simp at h;subst h
  simp only[List.set_cons_zero,valE];omega
 |x::r,j+1,e,e',h=>by
  simp only[List.set_cons_succ,valE]
  rw[valE_set q s r j e e' (by simpa using h)];omega
theorem stp_keep(S:StD)(m:PM)(q:List Vl)(s:Int)(hs:s<S.1):valE q s (stp S m).2=valE q s S.2:=by
 unfold stp
 by_cases h0:chkD S m=0
 ·rw[if_pos h0]
  obtain⟨z1,z2,z3,z4⟩:=chkO_zero h0
  unfold tk
  by_cases h3:m.1.1=3
  ·rw[if_pos h3]
  ·rw[if_neg h3]
   by_cases h1:m.1.1=1
   ·rw[if_pos h1]
    simp only
    rw[valE_app]
    have hf:=z3 (by rw[h1];decide)
    simp only[valE,indE]
    rw[if_neg (by intro h;have:=h.2.2.1;omega)]
    omega
   ·rw[if_neg h1]
    have h2:m.1.1=2:=by rcases mchk_kind z1 with hk|hk|hk;exact absurd hk h1;exact hk;exact absurd hk h3
    obtain⟨x,hx,y1,y2,y3⟩:=z2 h2
    cases hk:kn S.1 m.1.2.1 0 S.2 with
    |none=>rfl
    |some p =>
     obtain⟨j,e⟩:=p
     rw[hk,Option.map_some,Option.some.injEq] at hx
     subst hx
     simp only at y1 y2 y3
     obtain⟨-,hj,hl⟩:=kn_some hk
     rw[Nat.sub_zero] at hj
     obtain⟨l1,l2,l3⟩:=live_iff.1 hl
     simp only
     rw[valE_set q s S.2 j e _ hj]
     by_cases ht:m.1.2.2.2=e.2.1.1
     ·rw[if_pos ht]
      unfold indE
      rw[if_neg (by intro h;have:=h.2.2.1;omega),if_neg (by intro h;cases h.2.1)]
      omega
     ·rw[if_neg ht]
      unfold indE
      simp only
      by_cases hq:e.1.2=q∧e.2.1.1≤s
      ·rw[if_pos ⟨hq.1,l2,hq.2,by omega⟩,if_pos ⟨hq.1,trivial,hq.2,by omega⟩]
       omega
      ·rw[if_neg (fun h=>hq ⟨h.1,h.2.2.1⟩),if_neg (fun h=>hq ⟨h.1,h.2.2.1⟩)]
       omega
 ·rw[if_neg h0]
theorem alive_ex(q:List Vl)(s:Int):∀l:List Ev,aliveL q s (((exL l).filter fun x=> !goneX x).map exP1)=valE q s l
 |[]=>rfl
 |e::r=>by
  have ih:=alive_ex q s r
  have hc:exL (e::r)=exE e::exL r:=rfl
  rw[hc]
  obtain⟨e1,⟨e2,e3⟩,eg⟩:=e
  simp only[valE]
  cases hg:goneX (exE (e1,(e2,e3),eg))
  ·rw[List.filter_cons_of_pos (by rw[hg];rfl),List.map_cons,aliveL,ih]
   have hgf:eg=false:=by
    cases eg
    ·rfl
    ·exact absurd hg (by simp[goneX,exE])
   subst hgf
   congr 1
   unfold indE
   show (if e1.2=q∧e2≤s∧s<e3 then (1:Int) else 0)=if e1.2=q∧false=false∧e2≤s∧s<e3 then 1 else 0
   by_cases h:e1.2=q∧e2≤s∧s<e3
   ·rw[if_pos h,if_pos ⟨h.1,rfl,h.2.1,h.2.2⟩]
   ·rw[if_neg h,if_neg (fun k=>h ⟨k.1,k.2.2.1,k.2.2.2⟩)]
  ·rw[List.filter_cons_of_neg (by rw[hg];decide),ih]
   have:indE q s (e1,(e2,e3),eg)=0:=by
    unfold indE
    refine if_neg fun k=>?_
    obtain⟨-,k2,k3,k4⟩:=k
    simp only at k2 k3 k4
    subst k2
    have:=of_decide_eq_true hg
    simp only[exE] at this
    have h1:=this.1
    have h2:=this.2
    simp at h1 h2
    omega
   rw[this];omega
theorem exP_val(l:List PM)(q:List Vl)(s:Int):aliveL q s (exP l)=valE q s (runS (0,[]) l).2:=alive_ex q s _
end Go.Proofs.YtajelkkiijdegaaGreat
namespace Go.Proofs.YtajelkkiijdegaaGreat
open Go.RowKit
attribute [local go_sem] GW.cell GW.frozen In.eq_true In.le_true In.ne In.ne' In.ne_add In.ne_add' In.lt_add Upto.le_true Upto.le_add Upto.lt_add
theorem isLife_c(a b:Int)(w:World):Calls Tryz.prog 60 #[.agg #[.int .i64 a, .int .i64 b]] w fun e w'=>e= .returned (.bool (lifeB (a,b)))∧Ext w w':=by
 have hm:=hide (fun w=>smay_c a b w)
 have hn:=hide (fun w=>foldNone_c a b w)
 obtain⟨R,hR⟩:∃R,R=lifeB (a,b):=⟨_,rfl⟩
 rw[←hR]
 unfold lifeB spanB at hR
 simp only[Prod.mk.injEq] at hR
 generalize decide (a=0∧b=0)=N at *
 cases h:smayB a b
 ·rw[h,Bool.false_or] at hR
  rw[h] at hm
  subst hR
  go_enter Tryz.func60,Tryz.ntmps60
  go_wp2_with (first|(go_at_call 109;first|((with_reducible refine seq_gw' (hm.out _) ?_);intro g)|((with_reducible refine seq_gw (hm.out _) ?_);intro g))|(go_at_call 110;first|((with_reducible refine seq_gw' (hn.out _) ?_);intro g2)|((with_reducible refine seq_gw (hn.out _) ?_);intro g2)))
  go_returns
  exact⟨rfl,Gn.ext⟩
 ·rw[h,Bool.true_or] at hR
  rw[h] at hm
  subst hR
  clear hn
  go_enter Tryz.func60,Tryz.ntmps60
  go_wp2_with (go_at_call 109;first|((with_reducible refine seq_gw' (hm.out _) ?_);intro g)|((with_reducible refine seq_gw (hm.out _) ?_);intro g))
  go_returns
  exact⟨rfl,Gn.ext⟩
def fdE(q:List Vl)(o n:Spn):Int:=if mayR q then (if lifeB o && lifeB n then 0 else 14) else 2
def fdR(q:List Vl)(o n:Spn):List Ed:=if fdE q o n=0 then (nmL (chJ o n)).map fun j=>(q,j) else []
abbrev L4(V:Value)(q:List Vl)(o n:Spn):List Ve:=[(V,q,(n.1,1)),(V,q,(n.2, -1)),(V,q,(o.1, -1)),(V,q,(o.2,1))]
abbrev o4(V:Value)(o n:Spn):Obj:= .cells #[V, .int .i64 n.1, .int .i64 1,V, .int .i64 n.2, .int .i64 (-1),V, .int .i64 o.1, .int .i64 (-1),V, .int .i64 o.2, .int .i64 1] 131
theorem ew_four{W:World}{V:Value}{q:List Vl}{o n:Spn}(h:Rw W [] V q):Ew (W.alloc (o4 V o n)) [] (.slice (some ⟨W.heap.size,0,none⟩) 4 4) (L4 V q o n) :=
 ⟨Sl.own (World.ownsRow_lit (base:=W.heap.size) (e:=131) (size:=3) W #[V, .int .i64 n.1, .int .i64 1,V, .int .i64 n.2, .int .i64 (-1),V, .int .i64 o.1, .int .i64 (-1),V, .int .i64 o.2, .int .i64 1] 4 (Nat.le_refl _) (by decide) rfl) (by simp),fun p hp=>by
  simp only[List.mem_cons,List.not_mem_nil,or_false] at hp
  rcases hp with rfl|rfl|rfl|rfl<;>exact Sl.alloc h _⟩
theorem foldEdges_c(s o1 o2 n1 n2:Int)(q:List Vl)(u:Value)(w:World)(hu:Rw w [] u q):Calls Tryz.prog 29 #[.agg #[.int .i64 s,u, .int .i64 o1, .int .i64 o2, .int .i64 n1, .int .i64 n2]] w fun e w'=>∃v' M,e= .returned (.tuple #[v', .int .i64 (fdE q (o1,o2) (n1,n2))])∧eds M=fdR q (o1,o2) (n1,n2)∧OwnEr w' w.heap.size v' M∧Ext w w':=by
 have hmay:=hide (fun w' (hx:Ext w w')=>rowMay_c q u w' (Sl.ext hu hx))
 have hlo:=hide (fun w=>isLife_c o1 o2 w)
 have hln:=hide (fun w=>isLife_c n1 n2 w)
 obtain⟨UA,uc,eu⟩:=rw_val hu
 subst eu
 have hur:=hide hu
 obtain⟨E,hE⟩:∃E,E=fdE q (o1,o2) (n1,n2):=⟨_,rfl⟩
 have hRe:fdR q (o1,o2) (n1,n2)=if E=0 then (nmL (chJ (o1,o2) (n1,n2))).map fun j=>(q,j) else []:=by rw[hE];rfl
 rw[hRe,←hE]
 clear hRe hu
 unfold fdE at hE
 cases hm:mayR q
 ·rw[hm] at hmay hE
  rw[if_neg (by decide)] at hE
  subst hE
  generalize q.length=ql at *
  go_enter Tryz.func29,Tryz.ntmps29
  go_wp2_with (go_at_call 55;first|((with_reducible refine seq_gw' (hmay.out _ Gn.ext) ?_);intro g)|((with_reducible refine seq_gw (hmay.out _ Gn.ext) ?_);intro g))
  go_returns
  first|exact⟨_,rfl,OwnEr.nil _ _,Gn.ext⟩|exact⟨_,rfl,[],rfl,OwnEr.nil _ _,Gn.ext⟩|exact⟨_,[],rfl,rfl,OwnEr.nil _ _,Gn.ext⟩
 rw[hm] at hmay hE
 rw[if_pos rfl] at hE
 cases ho:lifeB (o1,o2)
 ·rw[ho] at hlo hE
  rw[Bool.false_and,if_neg (by decide)] at hE
  subst hE
  generalize q.length=ql at *
  go_enter Tryz.func29,Tryz.ntmps29
  go_wp2_with (first|(go_at_call 55;first|((with_reducible refine seq_gw' (hmay.out _ Gn.ext) ?_);intro g)|((with_reducible refine seq_gw (hmay.out _ Gn.ext) ?_);intro g))|(go_at_call 60;first|((with_reducible refine seq_gw' (hlo.out _) ?_);intro g2)|((with_reducible refine seq_gw (hlo.out _) ?_);intro g2)))
  go_returns
  first|exact⟨_,rfl,OwnEr.nil _ _,Gn.ext⟩|exact⟨_,rfl,[],rfl,OwnEr.nil _ _,Gn.ext⟩|exact⟨_,[],rfl,rfl,OwnEr.nil _ _,Gn.ext⟩
 cases hn:lifeB (n1,n2)
 ·rw[ho] at hlo hE
  rw[hn] at hln hE
  rw[Bool.and_false,if_neg (by decide)] at hE
  subst hE
  generalize q.length=ql at *
  go_enter Tryz.func29,Tryz.ntmps29
  go_wp2_with (first|(go_at_call 55;first|((with_reducible refine seq_gw' (hmay.out _ Gn.ext) ?_);intro g)|((with_reducible refine seq_gw (hmay.out _ Gn.ext) ?_);intro g))|(go_at_call 60;first|((with_reducible refine seq_gw' (hlo.out _) ?_);intro g2)|((with_reducible refine seq_gw (hlo.out _) ?_);intro g2)|((with_reducible refine seq_gw' (hln.out _) ?_);intro g3)|((with_reducible refine seq_gw (hln.out _) ?_);intro g3)))
  go_returns
  first|exact⟨_,rfl,OwnEr.nil _ _,Gn.ext⟩|exact⟨_,rfl,[],rfl,OwnEr.nil _ _,Gn.ext⟩|exact⟨_,[],rfl,rfl,OwnEr.nil _ _,Gn.ext⟩
 ·rw[ho] at hlo hE
  rw[hn] at hln hE
  rw[Bool.and_self,if_pos rfl] at hE
  subst hE
  rw[if_pos rfl]
  have hne:=ne_one q hm (chJ (o1,o2) (n1,n2)) (chJ_fine ho hn) (ch_may ho hn)
  have hnorm:=hide (fun w' (hx:Ext w w')=>edgeNorm_c (L4 (.slice UA q.length uc) q (o1,o2) (n1,n2)) (by simp) (fun r=>Nat.le_trans (jmps_le _ r) (by simp[eds])) _ _ (ew_four (o:=(o1,o2)) (n:=(n1,n2)) (Sl.ext hur.out hx)))
  have e4:∀V,eds (L4 V q (o1,o2) (n1,n2))=(chJ (o1,o2) (n1,n2)).map fun j=>(q,j):=fun V=>rfl
  simp only[e4,hne.1,hne.2] at hnorm
  generalize ((nmL (chJ (o1,o2) (n1,n2))).map fun j=>(q,j))=R at *
  clear hne e4
  go_enter Tryz.func29,Tryz.ntmps29
  go_wp2_with (first|(go_at_call 55;first|((with_reducible refine seq_gw' (hmay.out _ Gn.ext) ?_);intro g)|((with_reducible refine seq_gw (hmay.out _ Gn.ext) ?_);intro g))|(go_at_call 60;first|((with_reducible refine seq_gw' (hlo.out _) ?_);intro g2)|((with_reducible refine seq_gw (hlo.out _) ?_);intro g2)|((with_reducible refine seq_gw' (hln.out _) ?_);intro g3)|((with_reducible refine seq_gw (hln.out _) ?_);intro g3))|(go_at_call 61;(refine (hnorm.out _ Gn.ext).mono ?_;rintro ee w5 ⟨v5,M5,rfl,hM5,ho5,hx5⟩;obtain⟨A5,c5,e5⟩:=own_form ho5.1;subst e5;have hxx:=hide ((Gn.ext (w:=w)).trans hx5);replace hM5:=hide hM5;replace ho5:=hide ho5;clear hx5)))
  go_returns
  first|exact⟨_,rfl,M5,hM5.out,ho5.out.lower (Gn.ext (w:=w)).size,hxx.out⟩|exact⟨_,M5,rfl,hM5.out,ho5.out.lower (Gn.ext (w:=w)).size,hxx.out⟩
end Go.Proofs.YtajelkkiijdegaaGreat
namespace Go.Proofs.YtajelkkiijdegaaGreat
open Go.RowKit
def okEv(e:Ev):Prop:=mayR e.1.2=true∧0≤e.2.1.1∧e.2.1.1<e.2.1.2∧e.2.1.2≤1125899906842624
def okS(S:StD):Prop:=∀e∈S.2,okEv e
theorem take_ways{S:StD}{m:PM}(h0:chkD S m=0):(m.1.1=3∧stp S m=(m.1.2.2.1,S.2)∧chg S m=zCh) ∨
 (m.1.1=1∧okEv ((m.1.2.1,m.2),(m.1.2.2.1,m.1.2.2.2),false)∧(stp S m).2=S.2++[((m.1.2.1,m.2),(m.1.2.2.1,m.1.2.2.2),false)]∧chg S m=(S.2.length+1,m.2,(0,0),(m.1.2.2.1,m.1.2.2.2))) ∨
 (m.1.1=2∧∃j e,S.2[j]? = some e∧e.2.2=false∧m.1.2.2.2<e.2.1.2∧e.2.1.1≤m.1.2.2.2∧S.1≤m.1.2.2.2∧(stp S m).2=S.2.set j (if m.1.2.2.2=e.2.1.1 then (e.1,e.2.1,true) else (e.1,(e.2.1.1,m.1.2.2.2),false))∧chg S m=(j+1,e.1.2,e.2.1,cut e.2.1 m.1.2.2.2)):=by
 obtain⟨z1,z2,z3,z4⟩:=chkO_zero h0
 have e1:stp S m=(tk S m).1:=by unfold stp;rw[if_pos h0]
 have e2:chg S m=(tk S m).2:=by unfold chg;rw[if_pos h0]
 rw[e1,e2]
 unfold tk
 by_cases h3:m.1.1=3
 ·rw[if_pos h3];exact .inl ⟨h3,rfl,rfl⟩
 ·rw[if_neg h3]
  by_cases h1:m.1.1=1
  ·rw[if_pos h1]
   have z:=z1
   unfold mkM at z
   rw[h1] at z
   obtain⟨k1, -,k2,k3,k4⟩:=mchk_one z
   exact .inr (.inl ⟨h1,⟨k1,k2,k3,k4⟩,rfl,rfl⟩)
  ·rw[if_neg h1]
   have h2:m.1.1=2:=by rcases mchk_kind z1 with hk|hk|hk;exact absurd hk h1;exact hk;exact absurd hk h3
   obtain⟨x,hx,y1,y2,y3⟩:=z2 h2
   cases hk:kn S.1 m.1.2.1 0 S.2 with
   |none=>rw[hk] at hx;cases hx
   |some p =>
    obtain⟨j,e⟩:=p
    rw[hk,Option.map_some,Option.some.injEq] at hx
    subst hx
    obtain⟨-,hj,hl⟩:=kn_some hk
    rw[Nat.sub_zero] at hj
    exact .inr (.inr ⟨h2,j,e,hj,(live_iff.1 hl).2.1,y1,y2,y3,rfl,rfl⟩)
theorem stp_no{S:StD}{m:PM}(h0:chkD S m≠0):stp S m=S:=by unfold stp;rw[if_neg h0]
theorem stp_okS{S:StD}(h:okS S)(m:PM):okS (stp S m):=by
 by_cases h0:chkD S m=0
 ·rcases take_ways h0 with ⟨-,e, -⟩|⟨-,k,e, -⟩|⟨-,j,x,hj,hg,y1,y2,y3,e, -⟩
  ·rw[e];exact h
  ·intro a ha
   rw[e] at ha
   rcases List.mem_append.1 ha with ha|ha
   ·exact h a ha
   ·rw[List.mem_singleton.1 ha];exact k
  ·intro a ha
   rw[e] at ha
   have hx:=h x (List.mem_of_getElem? hj)
   rcases List.mem_or_eq_of_mem_set ha with ha|ha
   ·exact h a ha
   ·rw[ha]
    by_cases ht:m.1.2.2.2=x.2.1.1
    ·rw[if_pos ht];exact hx
    ·rw[if_neg ht]
     obtain⟨k1,k2,k3,k4⟩:=hx
     exact⟨k1,k2,by simp only;omega,by simp only;omega⟩
 ·rw[stp_no h0];exact h
theorem run_okS:∀(l:List PM) {S:StD},okS S→okS (runS S l)
 |[],_,h=>h
 |m::r,S,h=>run_okS r (stp_okS h m)
theorem ex_okS:okS (0,[]):=fun e he=>by cases he
theorem exP_may(l:List PM):(exP l).all mayPc=true:=by
 have hS:=run_okS l ex_okS
 rw[List.all_eq_true]
 intro x hx
 obtain⟨y,hy,rfl⟩:=List.mem_map.1 hx
 obtain⟨hy,hg⟩:=List.mem_filter.1 hy
 obtain⟨e,he,rfl⟩:=List.mem_map.1 hy
 obtain⟨k1,k2,k3,k4⟩:=hS e he
 obtain⟨e1,⟨e2,e3⟩,eg⟩:=e
 cases eg
 ·exact mayPc_of k1 (by show -1≤e2;simp only at k2;omega) k3 k4
 ·exact absurd hg (by simp[goneX,exE])
def okCh(c:Ch):Prop:=mayR c.2.1=true∧lifeB c.2.2.1=true∧lifeB c.2.2.2=true
theorem life_zero:lifeB (0,0)=true:=by decide
theorem life_span{a b:Int}(h1:0≤a)(h2:a<b)(h3:b≤1125899906842624):lifeB (a,b)=true:=by
 unfold lifeB spanB
 rw[mayB_mk ⟨h2,h1,by omega,by omega,h3⟩];rfl
theorem isC_iff{S:StD}{m:PM}:isC S m=true↔chkD S m=0∧m.1.1≠3:=by unfold isC;rw[decide_eq_true_iff]
theorem chg_ok{S:StD}(h:okS S){m:PM}(hC:isC S m=true):okCh (chg S m):=by
 obtain⟨h0,h3⟩:=isC_iff.1 hC
 rcases take_ways h0 with ⟨k, -⟩|⟨-,k, -,e⟩|⟨-,j,x,hj,hg,y1,y2,y3, -,e⟩
 ·exact absurd k h3
 ·rw[e]
  obtain⟨k1,k2,k3,k4⟩:=k
  exact⟨k1,life_zero,life_span k2 k3 k4⟩
 ·rw[e]
  obtain⟨k1,k2,k3,k4⟩:=h x (List.mem_of_getElem? hj)
  refine⟨k1,life_span k2 k3 k4,?_⟩
  show lifeB (cut x.2.1 m.1.2.2.2)=true
  unfold cut
  by_cases ht:m.1.2.2.2=x.2.1.1
  ·rw[if_pos ht];exact life_zero
  ·rw[if_neg ht];exact life_span k2 (by omega) (by omega)
def chv(q:List Vl)(u:Int)(c:Ch):Int:=if c.2.1=q then jv (chJ c.2.2.1 c.2.2.2) u else 0
theorem jv_chJ(o n:Spn)(u:Int):jv (chJ o n) u=(if n.1≤u then 1 else 0)-(if n.2≤u then 1 else 0)-(if o.1≤u then 1 else 0)+(if o.2≤u then 1 else 0):=by
 unfold chJ
 simp only[jv]
 split<;>split<;>split<;>split<;>omega
theorem indE_in(q:List Vl)(u i a b:Int):indE q u ((i,q),(a,b),false)=if a≤u∧u<b then 1 else 0:=by unfold indE;simp
theorem indE_gone(q:List Vl)(u:Int)(x:Int×List Vl)(s:Spn):indE q u (x,s,true)=0:=by unfold indE;simp
theorem indE_row{q r:List Vl}(u i:Int)(s:Spn)(g:Bool)(h:r≠q):indE q u ((i,r),s,g)=0:=by unfold indE;simp[h]
theorem ar_ins(a b u:Int)(h:a<b):(if a≤u then (1:Int) else 0)-(if b≤u then 1 else 0)-(if (0:Int)≤u then 1 else 0)+(if (0:Int)≤u then 1 else 0)=if a≤u∧u<b then 1 else 0:=by
 (repeat' split)<;>omega
theorem ar_del(a b u:Int)(h:a<b):(if (0:Int)≤u then (1:Int) else 0)-(if (0:Int)≤u then 1 else 0)-(if a≤u then 1 else 0)+(if b≤u then 1 else 0)=0-if a≤u∧u<b then 1 else 0:=by
 (repeat' split)<;>omega
theorem ar_cut(a t b u:Int)(h1:a<t)(h2:t<b):(if a≤u then (1:Int) else 0)-(if t≤u then 1 else 0)-(if a≤u then 1 else 0)+(if b≤u then 1 else 0)=(if a≤u∧u<t then 1 else 0)-if a≤u∧u<b then 1 else 0:=by
 (repeat' split)<;>omega
theorem chg_val{S:StD}(h:okS S)(m:PM)(q:List Vl)(u:Int):(if isC S m then chv q u (chg S m) else 0)=valE q u (stp S m).2-valE q u S.2:=by
 by_cases h0:chkD S m=0
 ·rcases take_ways h0 with ⟨k,e, -⟩|⟨k,⟨k1,k2,k3,k4⟩,e,e'⟩|⟨k,j,x,hj,hg,y1,y2,y3,e,e'⟩
  ·rw[e,if_neg (by rw[isC_iff];exact fun hh=>hh.2 k)]
   exact (Int.sub_self _).symm
  ·rw[if_pos (isC_iff.2 ⟨h0,by rw[k];decide⟩),e,e',valE_app]
   simp only[valE] at k2 k3 ⊢
   unfold chv
   simp only
   by_cases hq:m.2=q
   ·rw[if_pos hq,jv_chJ,hq,indE_in]
    simp only
    rw[ar_ins _ _ _ k3];omega
   ·rw[if_neg hq,indE_row u _ _ _ hq];omega
  ·rw[if_pos (isC_iff.2 ⟨h0,by rw[k];decide⟩),e,e',valE_set q u S.2 j x _ hj]
   obtain⟨k1,k2,k3,k4⟩:=h x (List.mem_of_getElem? hj)
   obtain⟨⟨xi,xr⟩,⟨x1,x2⟩,xg⟩:=x
   simp only at hg y1 y2 k2 k3 k4 ⊢
   subst hg
   unfold chv cut
   simp only
   by_cases hq:xr=q
   ·subst hq
    rw[if_pos rfl,jv_chJ,indE_in]
    by_cases ht:m.1.2.2.2=x1
    ·rw[if_pos ht,if_pos ht,indE_gone]
     simp only
     rw[ar_del _ _ _ k3];omega
    ·rw[if_neg ht,if_neg ht,indE_in]
     simp only
     rw[ar_cut _ _ _ _ (by omega) y1];omega
   ·rw[if_neg hq,indE_row u _ _ _ hq]
    by_cases ht:m.1.2.2.2=x1
    ·rw[if_pos ht,indE_gone];omega
    ·rw[if_neg ht,indE_row u _ _ _ hq];omega
 ·rw[stp_no h0,if_neg (by rw[isC_iff];exact fun hh=>h0 hh.1)]
  omega
def Amt(E:List Ed)(V:List Vl→Int→Int):Prop:=mayE E=true∧∀r u,u<1125899906842624→jv (jmps E r) u=V r u
theorem Amt.nil:Amt [] fun _ _=>0:=⟨by decide +kernel,fun r u _=>rfl⟩
theorem Amt.eq{E E':List Ed}{V V':List Vl→Int→Int}(h:Amt E V)(h':Amt E' V')(hv:∀r u,u<1125899906842624→V r u=V' r u):E=E':=by
 refine ed_ext (mayE_rise h.1) (mayE_rise h'.1) fun r=>?_
 have m1:=mayJ_rows h.1 r
 have m2:=mayJ_rows h'.1 r
 exact one_form (mayJ_canon m1) (mayJ_canon m2) (fun j hj=>(okJ_iff.1 ((mayJ_iff.1 m1).2.1 j hj)).2.1) (fun j hj=>(okJ_iff.1 ((mayJ_iff.1 m2).2.1 j hj)).2.1) fun u hu=>by rw[h.2 r u hu,h'.2 r u hu,hv r u hu]
theorem jv_app(f g:List Jp)(u:Int):jv (f++g) u=jv f u+jv g u:=by
 induction f with
 |nil=>simp[jv]
 |cons j f ih=>simp only[List.cons_append,jv];rw[ih];omega
theorem Amt.one{c:Ch}(h:okCh c):fdE c.2.1 c.2.2.1 c.2.2.2=0∧Amt (fdR c.2.1 c.2.2.1 c.2.2.2) (fun r u=>chv r u c):=by
 obtain⟨h1,h2,h3⟩:=h
 have h0:fdE c.2.1 c.2.2.1 c.2.2.2=0:=by unfold fdE;rw[h1,h2,h3];rfl
 have hf:=chJ_fine h2 h3
 obtain⟨e1,e2⟩:=ne_one c.2.1 h1 (chJ c.2.2.1 c.2.2.2) hf (ch_may h2 h3)
 refine⟨h0,?_⟩
 have hR:fdR c.2.1 c.2.2.1 c.2.2.2=(nmL (chJ c.2.2.1 c.2.2.2)).map fun j=>(c.2.1,j):=by unfold fdR;rw[if_pos h0]
 rw[hR]
 refine⟨by rw[←e2];exact ne_may e1,fun r u hu=>?_⟩
 rw[jmps_const]
 show _=if c.2.1=r then jv (chJ c.2.2.1 c.2.2.2) u else 0
 by_cases hq:c.2.1=r
 ·rw[if_pos hq,if_pos hq,nmL_val _ (fun j hj=>(hf j hj).2) u hu]
 ·rw[if_neg hq,if_neg hq];rfl
theorem tab_amt(l:List PM)(hl:l.length≤400):ppE (exP l)=0∧pkE (ppR (exP l))=0∧Amt (pkR (ppR (exP l))) (fun r u=>valE r u (runS (0,[]) l).2)∧(ppR (exP l)).length≤400:=by
 have hm:=exP_may l
 have hx:=exP_len l
 have h0:=pk_few hm (by omega)
 have hE:=(pk_zero h0).2.2.1
 have htab:=pk_tab h0
 have hlen:=pieces_len h0
 obtain⟨b1,b2⟩:=pk_back htab (by omega)
 have e:ppR (exP l)=piecesL (grp (pkR (exP l))):=pp_ok h0
 rw[e,b2]
 refine⟨by rw[pp_eq];exact h0,b1,⟨hE,fun r u hu=>?_⟩,by omega⟩
 show _=valE r u (runS (0,[]) l).2
 rw[←exP_val]
 exact (alive_pack h0 r hu).2
theorem jv_step:∀ {f:List Jp},Asc f→∀ {j:Jp},j∈f→jv f j.1=jv f (j.1-1)+j.2
 |[],_,_,hj=>by cases hj
 |a::r,h,j,hj=>by
  obtain⟨h1,h2⟩:=List.pairwise_cons.1 h
  rcases List.mem_cons.1 hj with rfl|hj
  ·have e1:jv r j.1=0:=jv_low fun k hk=>h1 k hk
   have e2:jv r (j.1-1)=0:=jv_low fun k hk=>by have:=h1 k hk;omega
   rw[jv,jv,e1,e2,if_pos (by omega),if_neg (by omega)];omega
  ·have:=h1 j hj
   have ih:=jv_step h2 hj
   rw[jv,jv,ih,if_pos (by omega),if_pos (by omega)];omega
theorem valE_pos(q:List Vl)(u:Int):∀l:List Ev,0≤valE q u l
 |[]=>Int.le_refl _
 |e::r=>by
  have:=valE_pos q u r
  have h1:0≤indE q u e:=by unfold indE;split<;>omega
  rw[valE];omega
def vT(mk:Int)(s:StD)(q:List Vl)(u:Int):Int:=if 1125899906842624≤mk then 0 else valE q (max u (mk-1)) s.2
structure TB (mk:Int) (s:StD) (X:List Ed):Prop where
 ok:okS s
 tab:tabE X=true
 mk0:(mk= -1∧s.1=0)∨mk=s.1
 c0:0≤s.1∧s.1≤1125899906842624
 val:∀r u, -1≤u→u<1125899906842624→jv (jmps X r) u=vT mk s r u
theorem TB.may{mk:Int}{s:StD}{X:List Ed}(h:TB mk s X):mayE X=true:=by have:=h.tab;unfold tabE at this;exact (Bool.and_eq_true_iff.1 this).1
theorem TB.nil:TB (-1) (0,[]) []:=⟨ex_okS,by decide +kernel, .inl ⟨rfl,rfl⟩,by decide,fun r u _ _=>by unfold vT;rw[if_neg (by decide)];rfl⟩
theorem TB.le{mk:Int}{s:StD}{X:List Ed}(h:TB mk s X):mk≤s.1∧ -1≤mk:=by
 have:=h.mk0;have:=h.c0;omega
theorem TB.cti{mk:Int}{s:StD}{X:List Ed}(h:TB mk s X){m:PM}(h0:chkD s m=0)(h3:m.1.1=3)(hf:fgE mk X m.1.2.2.1=0):TB (fM mk X m.1.2.2.1) (stp s m) (fX mk X m.1.2.2.1):=by
 obtain⟨z1, -,z3, -⟩:=chkO_zero h0
 have hc:s.1≤m.1.2.2.1:=z3 (by omega)
 have hr:0≤m.1.2.2.1∧m.1.2.2.1≤1125899906842624:=by unfold mkM at z1;rw[h3] at z1;exact mchk_three z1
 have hS:stp s m=(m.1.2.2.1,s.2):=by
  rcases take_ways h0 with ⟨-,e, -⟩|⟨e, -⟩|⟨e, -⟩
  ·exact e
  ·omega
  ·omega
 rw[hS]
 generalize m.1.2.2.1=t at *
 have hle:=h.le
 have hm:=h.may
 unfold fgE at hf
 unfold fM fX
 by_cases ht:t≤mk
 ·simp only[if_pos ht]
  have e:mk=t:=by omega
  have e2:mk=s.1:=by rcases h.mk0 with ⟨a,b⟩|a<;>omega
  refine⟨h.ok,h.tab, .inr e,by simp only;omega,fun r u h1 h2=>?_⟩
  rw[h.val r u h1 h2];rfl
 ·rw[if_neg ht] at hf
  simp only[if_neg ht,hf,if_pos]
  by_cases hF:1125899906842624≤t
  ·rw[(mp_end hm hF).2]
   refine⟨h.ok,by decide +kernel, .inr rfl,hr,fun r u _ _=>?_⟩
   unfold vT;rw[if_pos hF];rfl
  ·have htF:t<1125899906842624:=by omega
   rcases mp_re hm htF with ⟨k1,k2,k3⟩|⟨-,k2⟩
   ·rw[k3]
    refine⟨h.ok,fo_tab hm htF k1 hr.1 h.tab, .inr rfl,hr,fun r u h1 h2=>?_⟩
    rw[fo_row hm htF k1]
    have hfr:=reR_may (k1 r)
    rw[←atV_jv hfr.2]
    have hv:∀p, -1≤p→p<1125899906842624→t-1≤p→jv (jmps X r) p=valE r p s.2:=fun p a b c=>by
     rw[h.val r p a b]
     unfold vT
     rw[if_neg (by omega),show max p (mk-1)=p by omega]
    unfold vT
    rw[if_neg (by omega)]
    by_cases hu:u<t
    ·rw[re_left (k1 r) hu h1 htF,atV_jv hfr.1,hv _ (by omega) (by omega) (by omega),show max u (t-1)=t-1 by omega]
    ·rw[re_right (k1 r) (by omega) hr.1 htF,atV_jv hfr.1,hv _ h1 h2 (by omega),show max u (t-1)=u by omega]
   ·rw[hf] at k2;cases k2
theorem stp_clkC{s:StD}{m:PM}(hC:isC s m=true):(stp s m).1=s.1:=by
 obtain⟨h0,h3⟩:=isC_iff.1 hC
 unfold stp tk
 rw[if_pos h0,if_neg h3]
 split
 ·rfl
 ·split<;>rfl
theorem TB.add{mk:Int}{s:StD}{X l:List Ed}(h:TB mk s X){m:PM}(hC:isC s m=true)(hA:Amt l (fun r u=>chv r u (chg s m))):(baE X mk l=0∧TB mk (stp s m) (aX mk X l))∨baE X mk l=7:=by
 obtain⟨h0,h3⟩:=isC_iff.1 hC
 have hX:=h.may
 have hl:=hA.1
 have hle:=h.le
 have hcv:=fun r u=>chg_val h.ok m r u
 simp only[hC,if_true] at hcv
 have hz:∀r u,u<s.1→chv r u (chg s m)=0:=fun r u hu=>by rw[hcv,stp_keep s m r u hu];omega
 have hat:∀e∈l,mk≤e.2.1:=fun e he=>by
  have hj:e.2∈jmps l e.1:=jmps_mem.2 he
  have hm:=mayJ_rows hl e.1
  have hca:=mayJ_canon hm
  have hr:=mayJ_at hm e.2 hj
  have hst:=jv_step hca.1 hj
  have hne:=hca.2 e.2 hj
  rcases Int.lt_or_le e.2.1 mk with hlt|hge
  ·exfalso
   have a1:=(hA.2 e.1 e.2.1 hr.2).trans (hz _ _ (by omega))
   have a2:=(hA.2 e.1 (e.2.1-1) (by omega)).trans (hz _ _ (by omega))
   rw[a1,a2] at hst
   omega
  ·exact hge
 have hla:l.all (fun e=> !ltP mk e.2)=true:=List.all_eq_true.2 fun e he=>by
  have:=hat e he
  unfold ltP
  rw[decide_eq_false (by omega)];rfl
 rcases up_err hX hl with ⟨n0, -, -⟩|h7
 ·left
  have hnm:=ne_may n0
  have hval:∀r u, -1≤u→u<1125899906842624→jv (jmps (neR (X++l)) r) u=vT mk (stp s m) r u:=fun r u h1 h2=>by
   have hrow:=up_fn hX hl n0 r
   have hz0:(nmOp (jmps (X++l) r)).1=0:=op_rows (by decide) (up_val hX hl) (each_zero (ne_zero n0).2.1).1 r
   have hn:∀j∈jmps (X++l) r,nowJ j=false:=fun j hj=>(up_fine hX hl _ (jmps_mem.1 hj)).2
   rw[hrow,(nm_zero hz0).2,nmL_val _ hn u h2,jmps_append,jv_app,h.val r u h1 h2,hA.2 r u h2]
   show vT mk s r u+chv r u (chg s m)=_
   unfold vT
   by_cases hF:1125899906842624≤mk
   ·rw[if_pos hF,if_pos hF,hz r u (by omega)];rfl
   ·rw[if_neg hF,if_neg hF]
    by_cases hu:u<mk-1
    ·rw[show max u (mk-1)=mk-1 by omega,hz r u (by omega),stp_keep s m r (mk-1) (by omega)];omega
    ·rw[show max u (mk-1)=u by omega,hcv];omega
  have htab:tabE (neR (X++l))=true:=by
   rw[up_tab h.tab hl n0,List.all_eq_true]
   intro g hg
   rw[decide_eq_true_iff]
   have hgm:=grp_mem hl hg
   have e:(addOne X g).2=jmps (neR (X++l)) g.1:=by rw[up_fn_in hX hl n0,←hgm.1]
   rw[e]
   have hmj:=mayJ_rows hnm g.1
   unfold leV
   rw[if_pos hmj,leF_iff]
   have hp:∀u, -1≤u→u<1125899906842624→0≤jv (jmps (neR (X++l)) g.1) u:=fun u h1 h2=>by
    rw[hval _ u h1 h2]
    unfold vT
    split
    ·omega
    ·exact valE_pos _ _ _
   exact⟨hp _ (by omega) (by omega),fun j hj=>hp _ (mayJ_at hmj j hj).1 (mayJ_at hmj j hj).2⟩
  have hb:baE X mk l=0:=by
   unfold baE
   rw[if_pos hl,if_pos hla,if_pos n0,if_pos htab]
  refine⟨hb,?_⟩
  unfold aX
  rw[if_pos hb]
  refine⟨stp_okS h.ok m,htab,?_,?_,hval⟩
  ·rw[stp_clkC hC];exact h.mk0
  ·rw[stp_clkC hC];exact h.c0
 ·right
  have hne:neE (X++l)≠0:=by rw[h7.1];decide
  unfold baE
  rw[if_pos hl,if_pos hla,if_neg hne]
theorem TB.fin{mk:Int}{s:StD}{X E:List Ed}(h:TB mk s X)(hA:Amt E (fun r u=>valE r u s.2))(h0:mpE (reOp s.1) E=0):mpR (reOp s.1) E=X:=by
 have hm:=h.may
 have hc:=h.c0
 have hX:Amt X (fun r u=>if u < -1 then 0 else vT mk s r u):=⟨hm,fun r u hu=>by
  show _=if u < -1 then 0 else vT mk s r u
  by_cases h1:u < -1
  ·rw[if_pos h1];exact jv_below (mayJ_rows hm r) h1
  ·rw[if_neg h1];exact h.val r u (by omega) hu⟩
 by_cases hF:1125899906842624≤s.1
 ·rw[(mp_end hA.1 hF).2]
  refine Amt.eq Amt.nil hX fun r u hu=>?_
  show (0:Int)=if u < -1 then 0 else vT mk s r u
  unfold vT
  rcases h.mk0 with ⟨a,b⟩|a
  ·omega
  ·rw[if_pos (show 1125899906842624≤mk by omega)];split<;>rfl
 ·have hF2:s.1<1125899906842624:=by omega
  rcases mp_re hA.1 hF2 with ⟨k1,k2,k3⟩|⟨-,k2⟩
  ·rw[k3]
   have hfm:=fo_may hA.1 hF2 k1
   refine Amt.eq (V:=fun r u=>jv (jmps (foX E s.1) r) u) ⟨hfm,fun _ _ _=>rfl⟩ hX fun r u hu=>?_
   show jv (jmps (foX E s.1) r) u=if u < -1 then 0 else vT mk s r u
   by_cases h1:u < -1
   ·rw[if_pos h1];exact jv_below (mayJ_rows hfm r) h1
   ·rw[if_neg h1,fo_row hA.1 hF2 k1]
    have hfr:=reR_may (k1 r)
    rw[←atV_jv hfr.2]
    unfold vT
    have hle:=h.le
    rw[if_neg (by omega)]
    by_cases hu2:u<s.1
    ·rw[re_left (k1 r) hu2 (by omega) hF2,atV_jv hfr.1,hA.2 r _ (by omega)]
     show valE r (s.1-1) s.2=_
     rcases h.mk0 with ⟨a,b⟩|a
     ·have e1:max u (mk-1)=s.1-1:=by omega
      rw[e1]
     ·have e1:max u (mk-1)=s.1-1:=by omega
      rw[e1]
    ·rw[re_right (k1 r) (by omega) hc.1 hF2,atV_jv hfr.1,hA.2 r _ hu]
     show valE r u s.2=_
     have e1:max u (mk-1)=u:=by have:=h.mk0;omega
     rw[e1]
  ·rw[h0] at k2;cases k2
end Go.Proofs.YtajelkkiijdegaaGreat
