/-
  A helper of ours: no claim of its own. Layer 13 (fold): answers, clock, changes and events of messages, by the code.
-/
import Derived.Test.YtajelkkiijdegaaGreatFolZ
import Derived.Test.YtajelkkiijdegaaGreatFolPA
import Derived.Test.YtajelkkiijdegaaGreatFolPE
import Derived.Test.YtajelkkiijdegaaGreatFolXH
set_option linter.unusedVariables false
set_option linter.unusedSimpArgs false
set_option linter.unusedSectionVars false
set_option maxHeartbeats 64000000
set_option maxRecDepth 100000
namespace Go.Proofs.YtajelkkiijdegaaGreat
open Go.RowKit
attribute [local go_sem] GW.cell GW.frozen In.eq_true In.le_true In.ne In.ne' In.ne_add In.ne_add' In.lt_add Upto.le_true Upto.le_add Upto.lt_add
theorem fr_setCells{W:World}{g:Nat}:∀(vs:List Value) (o:Nat) (w:World),Fr [g] W w→Fr [g] W (w.setCells g o vs)
 |[],_,_,h=>h
 |v::r,o,w,h=>fr_setCells r (o+1) _ (h.setCell ⟨g,o,none⟩ v (.inl (by simp)))
theorem evtDel_c(W0:World)(l:List Le)(v:Value)(w:World)(h:OwnEx w W0.heap.size v l)(hX0:Ext W0 w)(hn:l.length≤200000):Calls Tryz.prog 127 #[v, .func (.func 128) #[] #[]] w fun e w' =>
 ∃v',e= .returned v'∧OwnEx w' W0.heap.size v' (filtE l)∧Ext W0 w':=by
 have hidx:=hide (evtIndex_c l _ v w h hn)
 by_cases hi:idxE 0 l= -1
 ·rw[hi] at hidx
  have hf:=hide (idxE_none l 0 hi)
  obtain⟨A,cap,rfl⟩:=h.form
  replace h:=hide h
  clear hi
  go_enter Tryz.func127,Tryz.ntmps127
  go_wp2_with (go_at_call 180;(with_reducible refine seq_gw hidx.out ?_);intro g)
  go_returns
  rw[hf.out]
  exact⟨_,rfl,h.out.ext g.grown,hX0.trans g.grown⟩
 ·obtain⟨i0,h1,h2,h3,x0,h4,h5⟩:=idxE_some l 0 hi
  rw[h1,Nat.zero_add] at hidx
  obtain⟨g,cap,PA0,pc0,rfl,hgB,hgl, -⟩:=own_evat h h4
  have hob:g∈ob (.slice (some ⟨g,0,none⟩) l.length cap):=by simp[ob,Value.ownBlock]
  have hNv:=hide (own_nt h.1 (e:=83) (by decide) g hob)
  have hrow:=hide h.2
  have hform:=hide (fun p (hp:p∈l)=>rwo_val (h.2 p hp))
  have hstart:Hid (filtE (l.take (i0+1))=l.take i0):=by show _=_;rw[filtE_next h4,if_pos h5,h3]
  have hnI:(l.length:Int)≤200000:=by omega
  have hi0b:((i0:Int) == -1)=false:=by rw[beq_eq_false_iff_ne];omega
  obtain⟨R,hR⟩:∃R,R=filtE l:=⟨_,rfl⟩
  rw[←hR]
  have hcap:l.length≤cap∧cap≤9223372036854775807:=by
   rcases h.1.2 with ⟨h',_⟩|⟨g',cap',cur,h',hb,hg,hnc,hcm,hcs,htake⟩
   ·simp at h'
   ·simp only[Value.slice.injEq] at h'
    obtain⟨_,_,rfl⟩:=h'
    unfold maxLen at hcm
    exact⟨hnc,by omega⟩
  obtain⟨hc1,hc2⟩:=hcap
  have h0:=hide h.1
  replace hR:=hide hR
  clear hi h1 h3 h4 h5 h
  obtain⟨n,hln⟩:∃n,n=l.length:=⟨_,rfl⟩
  have hlnh:=hide hln
  rw[←hln] at hidx h2 hnI hc1 ⊢
  clear hln hn hob
  go_enter Tryz.func127,Tryz.ntmps127
  go_wp2_with (go_at_call 180;(with_reducible refine seq_gw hidx.out ?_);intro q)
  have hstartO:Hid (q.val.ownsRow W0.heap.size 59 4 (.slice (some ⟨g,0,none⟩) n cap) n (evs l)):=by have:=own_ext h0.out q.grown;rw[←hlnh.out] at this;exact this
  have hFq:=hide (Fr.of_ext (S:=[g]) q.grown)
  go_loopg [5,6] (n-(i0+1)) (fun gh u i wr=>∃(j k:Nat) (cur:List Le),u= .int .i64 j∧i= .int .i64 k∧k+gh=n∧j<k∧Hid (cur.length=n)∧Hid (wr.ownsRow W0.heap.size 59 4 (.slice (some ⟨g,0,none⟩) n cap) n (evs cur))∧Hid (cur.take j=filtE (l.take k))∧Hid (cur.drop k=l.drop k)∧Hid (Fr [g] w wr)∧Ext W0 wr)
  case atStart=>exact⟨i0,i0+1,l,rfl,by go_num,by omega,by omega,hlnh.out.symm,hstartO,hstart.out.symm,rfl,hFq,hX0.trans q.grown⟩
  case round =>
   clear hidx hstartO hFq
   obtain⟨j,k,cur,rfl,rfl,hk,hjk,hcl,ho,htk,hdr,hFr,hX⟩:=hrel
   have hgw:g<wr.heap.size:=(World.ownsRow.lt ho.out g rfl).2
   haveI:In g wr:=⟨hgw⟩
   by_cases hlt:k<n
   ·obtain⟨x,hx⟩:∃x,l[k]? = some x:=⟨_,List.getElem?_eq_getElem (by have:=hlnh.out;omega)⟩
    have hcx:cur[k]? = some x:=by
     have e1:(cur.drop k)[0]? = (l.drop k)[0]? := by rw[hdr.out]
     simpa [hx] using e1
    obtain⟨PA,pc,epv⟩:=hform.out x (List.mem_of_getElem? hx)
    have y0:=(World.ownsRow.cellAt ho.out (k*4+0) (by omega)).trans (evs_get cur k x hcx 0 _ rfl)
    have y1:=(World.ownsRow.cellAt ho.out (k*4+1) (by omega)).trans (evs_get cur k x hcx 1 _ rfl)
    have y2:=(World.ownsRow.cellAt ho.out (k*4+2) (by omega)).trans (evs_get cur k x hcx 2 _ rfl)
    have y3:=(World.ownsRow.cellAt ho.out (k*4+3) (by omega)).trans (evs_get cur k x hcx 3 _ rfl)
    rw[Nat.add_zero] at y0
    have some_at:∀m,m<n*4→∃u,wr.cell? ⟨g,m,none⟩=some u:=fun m hm=>⟨_,(World.ownsRow.cellAt ho.out m hm).trans (List.getElem?_eq_getElem (by rw[evs_length,hcl.out];exact hm))⟩
    obtain⟨u0,s0⟩:=some_at (j*4) (by omega)
    obtain⟨u1,s1⟩:=some_at (j*4+1) (by omega)
    obtain⟨u2,s2⟩:=some_at (j*4+2) (by omega)
    obtain⟨u3,s3⟩:=some_at (j*4+3) (by omega)
    have f0:=World.ownsRow.frozenAt ho.out (j*4)
    have f1:=World.ownsRow.frozenAt ho.out (j*4+1)
    have f2:=World.ownsRow.frozenAt ho.out (j*4+2)
    have f3:=World.ownsRow.frozenAt ho.out (j*4+3)
    have hdel:=hide (fun w=>isCancelled_c PA x.2.1.2.length pc x.2 w)
    have hft:=filtE_next hx
    have hdr':Hid (cur.drop (k+1)=l.drop (k+1)):=by
     show _=_
     have:=hdr.out
     rw[edrop_cons hx,edrop_cons hcx] at this
     exact (List.cons.inj this).2
    obtain⟨xv,⟨xi,xr⟩,x1,x2⟩:=x
    simp only at y0 y1 y2 y3 epv hdel
    subst epv
    have hjI:(j:Int)<n:=by omega
    have hkI:(k:Int)<n:=by omega
    clear some_at hx
    cases hd:goneX ((xi,xr),(x1,x2))
    ·simp only[hd] at hdel hft
     rw[if_neg (by decide)] at hft
     replace hft:=hide hft
     replace hd:=hide hd
     clear hcx
     go_wp2_with (go_at_call 128;first|((with_reducible refine seq_gw (hdel.out _) ?_);intro q7)|((with_reducible refine seq_gw' (hdel.out _) ?_);intro q7))
     go_roundg (n-(k+1))
     case measure=>omega
     case rel =>
      have hX7:=((Ext.refl wr).alloc (.cells #[.int .i64 xi, .slice PA xr.length pc, .int .i64 x1, .int .i64 x2] 59)).trans q7.grown
      have o1:=(World.ownsRow.stored (own_ext ho.out hX7) (j*4) (.int .i64 xi)).1
      have o2:=(World.ownsRow.stored o1 (j*4+1) (.slice PA xr.length pc)).1
      have o3:=(World.ownsRow.stored o2 (j*4+2) (.int .i64 x1)).1
      have o4:=(World.ownsRow.stored o3 (j*4+3) (.int .i64 x2)).1
      rw[←evs_put (.slice PA xr.length pc,((xi,xr),(x1,x2))) cur j (by rw[hcl.out];omega)] at o4
      refine⟨j+1,k+1,cur.set j (.slice PA xr.length pc,((xi,xr),(x1,x2))),by go_num,by go_num,by omega,by omega,by rw[List.length_set];exact hcl.out,o4,?_,?_,(((((hFr.out.trans (Fr.of_ext hX7)).setCell _ _ (.inl (by simp))).setCell _ _ (.inl (by simp))).setCell _ _ (.inl (by simp))).setCell _ _ (.inl (by simp))),((((hX.trans hX7).setCell hgB _).setCell hgB _).setCell hgB _).setCell hgB _⟩
      ·show _=_
       rw[hft.out,←htk.out,List.take_add_one,List.take_set_of_le (Nat.le_refl _)]
       simp[show j<cur.length by rw[hcl.out];omega]
      ·show _=_
       rw[List.drop_set_of_lt (by omega)]
       exact hdr'.out
    ·simp only[hd] at hdel hft
     rw[if_pos trivial] at hft
     replace hft:=hide hft
     replace hd:=hide hd
     clear hcx s0 s1 s2 s3 f0 f1 f2 f3
     go_wp2_with (go_at_call 128;first|((with_reducible refine seq_gw (hdel.out _) ?_);intro q7)|((with_reducible refine seq_gw' (hdel.out _) ?_);intro q7))
     go_roundg (n-(k+1))
     case measure=>omega
     case rel =>
      have hX7:=((Ext.refl wr).alloc (.cells #[.int .i64 xi, .slice PA xr.length pc, .int .i64 x1, .int .i64 x2] 59)).trans q7.grown
      exact⟨j,k+1,cur,rfl,by go_num,by omega,by omega,hcl,own_ext ho.out hX7,by show _=_;rw[hft.out];exact htk.out,hdr',hFr.out.trans (Fr.of_ext hX7),hX.trans hX7⟩
   ·have hk':k=n:=by omega
    have hge:(n:Int)≤k:=by omega
    have hR2:Hid (R=cur.take j):=by show _=_;have:=htk.out;rw[hk',hlnh.out,List.take_length] at this;rw[hR.out];exact this.symm
    have hjn:j<n:=by omega
    have hjI:(j:Int)≤n:=by omega
    have hcl2:∀ty,(Builtin.clear_ #[46] ty #[.slice (some ⟨g,j*4,none⟩) (n-j) (cap-j)]).run Tryz.prog wr= .ok (.tuple #[]) (wr.setCells g (j*4) (Builtin.zeroCells (Value.agg #[.int .i64 0, .slice none 0 0, .int .i64 0, .int .i64 0]).cells (n-j)).toList):=fun ty=>by
     have hzl:(Builtin.zeroCells (Value.agg #[.int .i64 0, .slice none 0 0, .int .i64 0, .int .i64 0]).cells (n-j)).toList.length=(n-j)*4:=by rw[Array.length_toList,size_zeroCells];rfl
     refine run_clear_cells wr _ _ ty _ _ Tryz.underlying46 (fun _=>by kernel_rfl) g (j*4) (n-j) (cap-j) (by omega) rfl ?_ (fun i hi=>?_) (fun i hi=>?_)
     ·intro u hu
      have hu':=Array.mem_toList_iff.1 hu
      have hall:∀u∈Builtin.zeroCells (Value.agg #[.int .i64 0, .slice none 0 0, .int .i64 0, .int .i64 0]).cells (n-j),u= .int .i64 0∨u= .slice none 0 0:=by
       intro u hu
       simp only[Builtin.zeroCells] at hu
       simp at hu
       obtain⟨i,_,rfl⟩:=hu
       have:i % 4=0∨i % 4=1∨i % 4=2∨i % 4=3:=by omega
       rcases this with e|e|e|e<;>simp[Value.cells,e]
      rcases hall u hu' with rfl|rfl<;>rfl
     ·rw[hzl] at hi
      rw[World.ownsRow.cellAt ho.out (j*4+i) (by omega),List.getElem?_eq_getElem (by rw[evs_length,hcl.out];omega)];rfl
     ·exact World.ownsRow.frozenAt ho.out _
    have hown:Hid ((wr.setCells g (j*4) (Builtin.zeroCells (Value.agg #[.int .i64 0, .slice none 0 0, .int .i64 0, .int .i64 0]).cells (n-j)).toList).ownsRow W0.heap.size 59 4 (.slice (some ⟨g,0,none⟩) j cap) j (evs (cur.take j))):=by
     have:=own_take ho.out (i:=j) (by omega)
     rw[evs_take] at this
     exact own_setCells (w0:=w) _ _ _ this (Nat.le_refl _)
    have hxx:Hid (Ext W0 (wr.setCells g (j*4) (Builtin.zeroCells (Value.agg #[.int .i64 0, .slice none 0 0, .int .i64 0, .int .i64 0]).cells (n-j)).toList)):=ext_setCells hgB _ _ _ hX
    have hfz:Hid (Fr [g] w (wr.setCells g (j*4) (Builtin.zeroCells (Value.agg #[.int .i64 0, .slice none 0 0, .int .i64 0, .int .i64 0]).cells (n-j)).toList)):=fr_setCells _ _ _ hFr.out
    generalize wr.setCells g (j*4) (Builtin.zeroCells (Value.agg #[.int .i64 0, .slice none 0 0, .int .i64 0, .int .i64 0]).cells (n-j)).toList=wz at *
    have hjl:Hid ((cur.take j).length=j):=by show _=_;rw[List.length_take,hcl.out];omega
    have hsub:Hid (∀p∈cur.take j,p∈l):=fun p hp=>by
     rw[htk.out] at hp
     exact List.mem_of_mem_take (List.mem_filter.1 hp).1
    have hjc:j<cap:=by omega
    have hjcI:¬j=cap:=by omega
    replace hk':=hide hk'
    clear hcl htk hdr hR ho
    go_wp2_with fail
    go_returns
    rw[hR2.out]
    refine⟨_,rfl,⟨?_,fun p hp=>?_⟩,hxx.out⟩
    ·rw[hjl.out]
     exact hown.out
    ·exact (hrow.out p (hsub.out p hp)).stay hfz.out (by intro b hb;rw[List.mem_singleton.1 hb];exact hNv.out)
theorem run_inv:∀(l:List PM) (s:StD),(∃T,InvF T s)→∃T,InvF T (runS s l)
 |[],_,h=>h
 |m::r,s,⟨T,h⟩=>run_inv r (stp s m) ⟨_,h.step m (.slice none 0 0)⟩
theorem runS_inv(l:List PM):∃T,InvF T (runS (0,[]) l):=run_inv l _ ⟨[],InvF.nil⟩
theorem mayR8{r:List Vl}(h:mayR r=true):r.length≤8:=(mayR_iff.1 h).1
theorem chg_r8{T:List Ke}{S:StD}(hI:InvF T S)(m:PM):(chg S m).2.1.length≤8:=by
 unfold chg
 split
 ·rename_i h0
  have hz:=h0
  rw[hI.chk] at hz
  obtain⟨z1, -⟩:=chkO_zero hz
  rw[hI.change m h0]
  by_cases h3:m.1.1=3
  ·rw[if_pos h3];exact Nat.zero_le _
  ·rw[if_neg h3]
   by_cases h1:m.1.1=1
   ·rw[if_pos h1]
    unfold mkM at z1
    rw[h1] at z1
    exact mayR8 (mchk_one z1).1
   ·rw[if_neg h1]
    obtain⟨h1',h2'⟩:=hI.free m.1.2.1
    cases hp:atK (freeK T S.1 m.1.2.1) m.1.2.1 with
    |none=>exact Nat.zero_le _
    |some p =>
     obtain⟨g1,g2⟩:=h1'.known p (atK_some hp).1 (h2' p hp)
     exact mayR8 (hI.evs _ (List.mem_of_getElem? g2)).2.2.2.1
 ·exact Nat.zero_le _
theorem pms_at{L:List Vm}{k:Nat}{p:Vm}(h:L[k]? = some p):(pms L)[k]? = some p.2:=by unfold pms;rw[List.getElem?_map,h];rfl
theorem pms_len(L:List Vm)(k:Nat):((pms L).take k).length≤L.length:=by rw[List.length_take,pms,List.length_map];omega
section
variable (L:List Vm) (v:Value) (w:World) (hL:Mw w [] v L) (hin:∀p∈L,inM p.2) (hlen:L.length≤100000)
include hL hin hlen
theorem answers_c:Calls Tryz.prog 89 #[v] w fun e w'=>∃sv,e= .returned sv∧w'.ownsRow w.heap.size 27 1 sv (runE (0,[]) (pms L)).length (ns (runE (0,[]) (pms L)))∧Ext w w':=by
 have hpr:=hide (fun w' (hX:Ext w w') (h0:BxA w' w.heap.size w.heap.size (runE (0,[]) ((pms L).take 0)))=>processA_c w L v w.heap.size (fun k w'=>BxA w' w.heap.size w.heap.size (runE (0,[]) ((pms L).take k))) hL hin hlen w' hX h0 (fun k w1 w2 h hx=>h.ext hx) (fun k s mb w1 w2 h hst hF=>h.stay hst hF) (fun k p u w1 s mb hp hu hI hX1 hst=>by
  obtain⟨UA,uc,eu⟩:=rw_val hu
  obtain⟨PA,pc,ep⟩:=rw_val (hL.2 p (List.mem_of_getElem? hp))
  have hl:=runE_len ((pms L).take k) (0,[])
  have:=pms_len L k
  refine (ansPut_c w w.heap.size s mb _ p.2.1.1 p.2.1.2.1 p.2.1.2.2.1 p.2.1.2.2.2 u p.1 PA UA _ pc _ uc ep eu _ _ (by omega) w1 hI hX1 hst).mono ?_
  rintro e w2 ⟨h1,h2,h3⟩
  rw[runE_take (pms_at hp)]
  exact⟨h1,h2,h3⟩))
 obtain⟨LA,lc,rfl, -, -, -⟩:=mw_form hL
 have h00:=hide (show BxA (w.alloc (.cells #[.slice none 0 0] 160)) w.heap.size w.heap.size (runE (0,[]) ((pms L).take 0)) from ⟨.slice none 0 0,Ob.new w 160 [.slice none 0 0],World.ownsRow_nil _ _ _ _,Nat.le_refl _⟩)
 clear hL hin
 go_enter Tryz.func89,Tryz.ntmps89
 go_wp2_with (go_at_call 91;(refine (hpr.out _ ((Ext.refl w).alloc _) h00.out).mono ?_;rintro ee w2 ⟨rfl,⟨sv,hO,ho,hB⟩,hX2⟩;obtain⟨A2,c2,e2⟩:=own_form ho;subst e2;have q0:=hO.cell 0 rfl;have ql:=hO.lt;haveI:In w.heap.size w2:=⟨ql⟩;replace ho:=hide ho;replace hX2:=hide hX2;clear hO))
 go_returns
 refine⟨_,rfl,?_,hX2.out⟩
 have h1:=ho.out
 rw[show (pms L).take L.length=pms L by rw[List.take_of_length_le];simp[pms]] at h1 ⊢
 exact h1
theorem changes_c:Calls Tryz.prog 43 #[v] w fun e w'=>∃sv M,e= .returned sv∧OwnCh w' w.heap.size sv M∧M.map Prod.snd=runC (0,[]) (pms L)∧Ext w w':=by
 have hpr:=hide (fun w' (hX:Ext w w') (h0:∃M,BxH w' w.heap.size w.heap.size M∧M.map Prod.snd=runC (0,[]) ((pms L).take 0))=>processH_c w L v w.heap.size (fun k w'=>∃M,BxH w' w.heap.size w.heap.size M∧M.map Prod.snd=runC (0,[]) ((pms L).take k)) hL hin hlen w' hX h0 (fun k w1 w2 h hx=>by obtain⟨M,h1,h2⟩:=h;exact⟨M,h1.ext hx,h2⟩) (fun k s mb w1 w2 h hst hF=>by obtain⟨M,h1,h2⟩:=h;exact⟨M,h1.stay hst hF,h2⟩) (fun k p u w1 s mb hp hu hI hX1 hst=>by
  obtain⟨M,h1,h2⟩:=hI
  obtain⟨PA,pc,ep⟩:=rw_val (hL.2 p (List.mem_of_getElem? hp))
  obtain⟨T,hT⟩:=runS_inv ((pms L).take k)
  have hl:=congrArg List.length h2
  rw[List.length_map] at hl
  have hl2:=runC_len ((pms L).take k) (0,[])
  have:=pms_len L k
  refine (chgPut_c w w.heap.size s mb M p.2.1.1 p.2.1.2.1 p.2.1.2.2.1 p.2.1.2.2.2 u p.1 PA _ pc ep _ hu (chg_r8 hT p.2) _ (by omega) w1 h1 hX1 hst).mono ?_
  rintro e w2 ⟨k1,⟨M',k2,k3⟩,k4⟩
  refine⟨k1,⟨M',k2,?_⟩,k4⟩
  rw[runC_take (pms_at hp),k3,h2,chg_ser hT]))
 obtain⟨LA,lc,rfl, -, -, -⟩:=mw_form hL
 have h00:=hide (show ∃M,BxH (w.alloc (.cells #[.slice none 0 0] 53)) w.heap.size w.heap.size M∧M.map Prod.snd=runC (0,[]) ((pms L).take 0) from ⟨[],⟨.slice none 0 0,Ob.new w 53 [.slice none 0 0],OwnX.nil _ _,Nat.le_refl _⟩,rfl⟩)
 clear hL hin
 go_enter Tryz.func43,Tryz.ntmps43
 go_wp2_with (go_at_call 91;(refine (hpr.out _ ((Ext.refl w).alloc _) h00.out).mono ?_;rintro ee w2 ⟨rfl,⟨M,⟨sv,hO,ho,hB⟩,hM⟩,hX2⟩;obtain⟨A2,c2,e2⟩:=ho.form;subst e2;have q0:=hO.cell 0 rfl;have ql:=hO.lt;haveI:In w.heap.size w2:=⟨ql⟩;replace ho:=hide ho;replace hM:=hide hM;replace hX2:=hide hX2;clear hO))
 go_returns
 exact⟨_,M,rfl,ho.out,by rw[hM.out,show (pms L).take L.length=pms L by rw[List.take_of_length_le];simp[pms]],hX2.out⟩
theorem events_c:Calls Tryz.prog 68 #[v] w fun e w'=>∃sv M,e= .returned sv∧OwnEx w' w.heap.size sv M∧M.map Prod.snd=(exL (runS (0,[]) (pms L)).2).filter (fun x=> !goneX x)∧Ext w w':=by
 have hpr:=hide (fun w' (hX:Ext w w') (h0:∃M,BxE w' w.heap.size w.heap.size M∧M.map Prod.snd=exL (runS (0,[]) ((pms L).take 0)).2)=>processE_c w L v w.heap.size (fun k w'=>∃M,BxE w' w.heap.size w.heap.size M∧M.map Prod.snd=exL (runS (0,[]) ((pms L).take k)).2) hL hin hlen w' hX h0 (fun k w1 w2 h hx=>by obtain⟨M,h1,h2⟩:=h;exact⟨M,h1.ext hx,h2⟩) (fun k s mb w1 w2 h hst hF=>by obtain⟨M,h1,h2⟩:=h;exact⟨M,h1.stay hst hF,h2⟩) (fun k p u w1 s mb hp hu hI hX1 hst=>by
  obtain⟨M,h1,h2⟩:=hI
  obtain⟨PA,pc,ep⟩:=rw_val (hL.2 p (List.mem_of_getElem? hp))
  obtain⟨T,hT⟩:=runS_inv ((pms L).take k)
  have hl:=congrArg List.length h2
  rw[List.length_map] at hl
  unfold exL at hl
  rw[List.length_map] at hl
  have hl2:=runS_len ((pms L).take k) (0,[])
  simp only[List.length_nil,Nat.zero_add] at hl2
  have:=pms_len L k
  have hser:=chg_ser hT p.2
  have hr8:=chg_r8 hT p.2
  have hx1:=ex_none hT p.2
  have hx2:=ex_ins hT p.2
  have hx3:=ex_ret hT p.2
  rw[runS_take (pms_at hp)]
  generalize runS (0,[]) ((pms L).take k)=S at *
  obtain⟨pv,⟨pk,pi,pf,pt⟩,pl⟩:=p
  simp only at *
  generalize hC:chg S ((pk,pi,pf,pt),pl)=C at *
  obtain⟨cs,cr,⟨o1,o2⟩,n1,n2⟩:=C
  simp only at *
  cases hs:decide (0<cs)
  ·rw[hs] at hser
   refine (evtPut0_c w w.heap.size s mb M pk pi pf pt u pv PA _ pc ep (cs,cr,(o1,o2),(n1,n2)) hu hs _ w1 h1 hX1 hst).mono ?_
   rintro e w2 ⟨k1,k2,k4⟩
   exact⟨k1,⟨M,k2,by rw[hx1 hser];exact h2⟩,k4⟩
  ·rw[hs] at hser
   by_cases h1k:pk=1
   ·subst h1k
    refine (evtPut1_c w w.heap.size s mb M pi pf pt u pv PA _ pc ep cs cr o1 o2 n1 n2 hu hr8 hs _ (by omega) w1 h1 hX1 hst).mono ?_
    rintro e w2 ⟨k1,⟨M',k2,k3⟩,k4⟩
    exact⟨k1,⟨M',k2,by rw[hx2 hser rfl,k3,h2]⟩,k4⟩
   ·obtain⟨x,g1,g2,g3⟩:=hx3 hser h1k
    have hM:∃q,M[cs-1]? = some q∧q.2=x:=by
     have:(M.map Prod.snd)[cs-1]? = some x:=by rw[h2];exact g2
     rw[List.getElem?_map] at this
     cases hq:M[cs-1]? with
     |none=>rw[hq] at this;cases this
     |some q=>rw[hq] at this;exact⟨q,rfl,Option.some.inj this⟩
    obtain⟨q,hq,rfl⟩:=hM
    refine (evtPut2_c w w.heap.size s mb M pk pi pf pt h1k u pv PA _ pc ep cs cr o1 o2 n1 n2 hu hs q hq _ (by omega) w1 h1 hX1 hst).mono ?_
    rintro e w2 ⟨k1,⟨M',k2,k3⟩,k4⟩
    exact⟨k1,⟨M',k2,by rw[g3,k3,h2]⟩,k4⟩))
 obtain⟨LA,lc,rfl, -, -, -⟩:=mw_form hL
 have h00:=hide (show ∃M,BxE (w.alloc (.cells #[.slice none 0 0] 46)) w.heap.size w.heap.size M∧M.map Prod.snd=exL (runS (0,[]) ((pms L).take 0)).2 from ⟨[],⟨.slice none 0 0,Ob.new w 46 [.slice none 0 0],OwnX.nil _ _,Nat.le_refl _⟩,rfl⟩)
 have hlL:=hide (runS_len (pms L) (0,[]))
 have hdel:=hide (fun M sv w' (ho:OwnEx w' w.heap.size sv M) (hX:Ext w w') (hn:M.length≤200000)=>evtDel_c w M sv w' ho hX hn)
 clear hL hin
 go_enter Tryz.func68,Tryz.ntmps68
 go_wp2_with (first|(go_at_call 91;(refine (hpr.out _ ((Ext.refl w).alloc _) h00.out).mono ?_;rintro ee w2 ⟨rfl,⟨M,⟨sv,hO,ho,hB⟩,hM⟩,hX2⟩;have hdl:=hide (hdel.out M sv w2 ho hX2 (by have h1:=congrArg List.length hM;have h2:=hlL.out;rw[show (pms L).take L.length=pms L by rw[List.take_of_length_le];simp[pms]] at h1;unfold exL at h1;rw[List.length_map,List.length_map] at h1;simp only[List.length_nil,Nat.zero_add,pms,List.length_map] at h1 h2;omega));obtain⟨A2,c2,e2⟩:=ho.form;subst e2;have q0:=hO.cell 0 rfl;have ql:=hO.lt;haveI:In w.heap.size w2:=⟨ql⟩;replace hM:=hide hM;clear hO ho hX2))|(go_at_call 127;(refine hdl.out.mono ?_;rintro ee w3 ⟨v3,rfl,ho3,hX3⟩;obtain⟨A3,c3,e3⟩:=ho3.form;subst e3;replace ho3:=hide ho3;replace hX3:=hide hX3)))
 go_returns
 refine⟨_,filtE M,rfl,ho3.out,?_,hX3.out⟩
 have h1:=hM.out
 rw[show (pms L).take L.length=pms L by rw[List.take_of_length_le];simp[pms]] at h1
 rw[←h1]
 unfold filtE
 rw[List.filter_map]
 rfl
end
end Go.Proofs.YtajelkkiijdegaaGreat
