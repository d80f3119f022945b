/-
  A helper of ours: no claim of its own. Layer 11 (pack): pieces in memory: which may be, which are the same, by the code and by the document.
-/
import Derived.Test.YtiknkcadbaeknaaGreatFolPA
import Derived.Test.YtiknkcadbaeknaaGreatFolPC
import Derived.Test.YtiknkcadbaeknaaGreatFolPH
import Derived.Test.YtiknkcadbaeknaaGreatBagB
import Derived.Test.YtiknkcadbaeknaaGreatFolXH
import Derived.Test.YtiknkcadbaeknaaGreatFolW
import Derived.Test.YtiknkcadbaeknaaGreatEdgB
import Derived.Test.YtiknkcadbaeknaaGreatSpanA
set_option linter.unusedVariables false
set_option linter.unusedSimpArgs false
namespace Go.Proofs.YtiknkcadbaeknaaGreat
open Go.RowKit
attribute [local go_sem] GW.cell GW.frozen In.eq_true In.le_true In.ne In.ne' In.ne_add In.ne_add' In.lt_add Upto.le_true Upto.le_add Upto.lt_add
theorem run_inv : ∀ (l : List PM) (s : StD), (∃ T, InvF T s) → ∃ T, InvF T (runS s l)
  | [], _, h => h
  | m :: r, s, ⟨T, h⟩ => run_inv r (stp s m) ⟨_, h.step m (.slice none 0 0)⟩
theorem runS_inv (l : List PM) : ∃ T, InvF T (runS (0, []) l) := run_inv l _ ⟨[], InvF.nil⟩
theorem mayR8 {r : List Vl} (h : mayR r = true) : r.length ≤ 8 := (mayR_iff.1 h).1
theorem chg_r8 {T : List Ke} {S : StD} (hI : InvF T S) (m : PM) : (chg S m).2.1.length ≤ 8 := by
  unfold chg
  split
  · rename_i h0
    have hz := h0
    rw [hI.chk] at hz
    obtain ⟨z1, -⟩ := chkO_zero hz
    rw [hI.change m h0]
    by_cases h3 : m.1.1 = 3
    · rw [if_pos h3]; exact Nat.zero_le _
    · rw [if_neg h3]
      by_cases h1 : m.1.1 = 1
      · rw [if_pos h1]
        unfold mkM at z1
        rw [h1] at z1
        exact mayR8 (mchk_one z1).1
      · rw [if_neg h1]
        obtain ⟨h1', h2'⟩ := hI.free m.1.2.1
        cases hp : atK (freeK T S.1 m.1.2.1) m.1.2.1 with
        | none => exact Nat.zero_le _
        | some p =>
          obtain ⟨g1, g2⟩ := h1'.known p (atK_some hp).1 (h2' p hp)
          exact mayR8 (hI.evs _ (List.mem_of_getElem? g2)).2.2.2.1
  · exact Nat.zero_le _
theorem pms_at {L : List Vm} {k : Nat} {p : Vm} (h : L[k]? = some p) : (pms L)[k]? = some p.2 := by unfold pms; rw [List.getElem?_map, h]; rfl
theorem pms_len (L : List Vm) (k : Nat) : ((pms L).take k).length ≤ L.length := by rw [List.length_take, pms, List.length_map]; omega
section
variable (L : List Vm) (v : Value) (w : World) (hL : Mw w [] v L) (hin : ∀ p ∈ L, inM p.2) (hlen : L.length ≤ 100000)
include hL hin hlen
set_option maxHeartbeats 4000000 in
set_option maxRecDepth 100000 in
theorem answers_c : Calls Tryz.prog 10 #[v] w fun e w' => ∃ sv, e = .returned sv ∧ w'.ownsRow w.heap.size 35 1 sv (runE (0, []) (pms L)).length (ns (runE (0, []) (pms L))) ∧ Ext w w' := by
  have hpr := hide (fun w' (hX : Ext w w') (h0 : BxA w' w.heap.size w.heap.size (runE (0, []) ((pms L).take 0))) => processA_c w L v w.heap.size (fun k w' => BxA w' w.heap.size w.heap.size (runE (0, []) ((pms L).take k))) hL hin hlen w' hX h0 (fun k w1 w2 h hx => h.ext hx) (fun k s mb w1 w2 h hst hF => h.stay hst hF) (fun k p u w1 s mb hp hu hI hX1 hst => by
    obtain ⟨UA, uc, eu⟩ := rw_val hu
    obtain ⟨PA, pc, ep⟩ := rw_val (hL.2 p (List.mem_of_getElem? hp))
    have hl := runE_len ((pms L).take k) (0, [])
    have := pms_len L k
    refine (ansPut_c w w.heap.size s mb _ p.2.1.1 p.2.1.2.1 p.2.1.2.2.1 p.2.1.2.2.2 u p.1 PA UA _ pc _ uc ep eu _ _ (by omega) w1 hI hX1 hst).mono ?_
    rintro e w2 ⟨h1, h2, h3⟩
    rw [runE_take (pms_at hp)]
    exact ⟨h1, h2, h3⟩))
  obtain ⟨LA, lc, rfl, -, -, -⟩ := mw_form hL
  have h00 := hide (show BxA (w.alloc (.cells #[.slice none 0 0] 24)) w.heap.size w.heap.size (runE (0, []) ((pms L).take 0)) from ⟨.slice none 0 0, Ob.new w 24 [.slice none 0 0], World.ownsRow_nil _ _ _ _, Nat.le_refl _⟩)
  clear hL hin
  go_enter Tryz.func10, Tryz.ntmps10
  go_wp2_with (go_at_call 48; (refine (hpr.out _ ((Ext.refl w).alloc _) h00.out).mono ?_; rintro ee w2 ⟨rfl, ⟨sv, hO, ho, hB⟩, hX2⟩; obtain ⟨A2, c2, e2⟩ := own_form ho; subst e2; have q0 := hO.cell 0 rfl; have ql := hO.lt; haveI : In w.heap.size w2 := ⟨ql⟩; replace ho := hide ho; replace hX2 := hide hX2; clear hO))
  go_returns
  refine ⟨_, rfl, ?_, hX2.out⟩
  have h1 := ho.out
  rw [show (pms L).take L.length = pms L by rw [List.take_of_length_le]; simp [pms]] at h1 ⊢
  exact h1
set_option maxHeartbeats 4000000 in
set_option maxRecDepth 100000 in
theorem clock_c : Calls Tryz.prog 12 #[v] w fun e w' => e = .returned (.int .i64 (runS (0, []) (pms L)).1) ∧ Ext w w' := by
  have hpr := hide (fun w' (hX : Ext w w') (h0 : BxC w' w.heap.size w.heap.size (runS (0, []) ((pms L).take 0)).1) => processC_c w L v w.heap.size (fun k w' => BxC w' w.heap.size w.heap.size (runS (0, []) ((pms L).take k)).1) hL hin hlen w' hX h0 (fun k w1 w2 h hx => h.ext hx) (fun k s mb w1 w2 h hst hF => h.stay hst hF) (fun k p u w1 s mb hp hu hI hX1 hst => by
    obtain ⟨UA, uc, eu⟩ := rw_val hu
    obtain ⟨PA, pc, ep⟩ := rw_val (hL.2 p (List.mem_of_getElem? hp))
    refine (clkPut_c w w.heap.size s mb _ p.2.1.1 p.2.1.2.1 p.2.1.2.2.1 p.2.1.2.2.2 u p.1 PA UA _ pc _ uc ep eu _ _ w1 hI hX1 hst).mono ?_
    rintro e w2 ⟨h1, h2, h3⟩
    rw [runS_take (pms_at hp), stp_clk]
    exact ⟨h1, h2, h3⟩))
  obtain ⟨LA, lc, rfl, -, -, -⟩ := mw_form hL
  have h00 := hide (show BxC (w.alloc (.cells #[.int .i64 0] 3)) w.heap.size w.heap.size (runS (0, []) ((pms L).take 0)).1 from ⟨Ob.new w 3 [.int .i64 0], Nat.le_refl _⟩)
  obtain ⟨R, hR⟩ : ∃ R, R = (runS (0, []) (pms L)).1 := ⟨_, rfl⟩
  rw [← hR]
  have hR2 : (runS (0, []) ((pms L).take L.length)).1 = R := by rw [hR, show (pms L).take L.length = pms L by rw [List.take_of_length_le]; simp [pms]]
  rw [hR2] at hpr
  replace hR := hide hR
  clear hL hin hR2
  go_enter Tryz.func12, Tryz.ntmps12
  go_wp2_with (go_at_call 48; (refine (hpr.out _ ((Ext.refl w).alloc _) h00.out).mono ?_; rintro ee w2 ⟨rfl, ⟨hO, hB⟩, hX2⟩; have q0 := hO.cell 0 rfl; have ql := hO.lt; haveI : In w.heap.size w2 := ⟨ql⟩; replace hX2 := hide hX2; clear hO))
  go_returns
  exact ⟨rfl, hX2.out⟩
set_option maxHeartbeats 4000000 in
set_option maxRecDepth 100000 in
theorem changes_c : Calls Tryz.prog 13 #[v] w fun e w' => ∃ sv M, e = .returned sv ∧ OwnCh w' w.heap.size sv M ∧ M.map Prod.snd = runC (0, []) (pms L) ∧ Ext w w' := by
  have hpr := hide (fun w' (hX : Ext w w') (h0 : ∃ M, BxH w' w.heap.size w.heap.size M ∧ M.map Prod.snd = runC (0, []) ((pms L).take 0)) => processH_c w L v w.heap.size (fun k w' => ∃ M, BxH w' w.heap.size w.heap.size M ∧ M.map Prod.snd = runC (0, []) ((pms L).take k)) hL hin hlen w' hX h0 (fun k w1 w2 h hx => by obtain ⟨M, h1, h2⟩ := h; exact ⟨M, h1.ext hx, h2⟩) (fun k s mb w1 w2 h hst hF => by obtain ⟨M, h1, h2⟩ := h; exact ⟨M, h1.stay hst hF, h2⟩) (fun k p u w1 s mb hp hu hI hX1 hst => by
    obtain ⟨M, h1, h2⟩ := hI
    obtain ⟨PA, pc, ep⟩ := rw_val (hL.2 p (List.mem_of_getElem? hp))
    obtain ⟨T, hT⟩ := runS_inv ((pms L).take k)
    have hl := congrArg List.length h2
    rw [List.length_map] at hl
    have hl2 := runC_len ((pms L).take k) (0, [])
    have := pms_len L k
    refine (chgPut_c w w.heap.size s mb M p.2.1.1 p.2.1.2.1 p.2.1.2.2.1 p.2.1.2.2.2 u p.1 PA _ pc ep _ hu (chg_r8 hT p.2) _ (by omega) w1 h1 hX1 hst).mono ?_
    rintro e w2 ⟨k1, ⟨M', k2, k3⟩, k4⟩
    refine ⟨k1, ⟨M', k2, ?_⟩, k4⟩
    rw [runC_take (pms_at hp), k3, h2, chg_ser hT]))
  obtain ⟨LA, lc, rfl, -, -, -⟩ := mw_form hL
  have h00 := hide (show ∃ M, BxH (w.alloc (.cells #[.slice none 0 0] 26)) w.heap.size w.heap.size M ∧ M.map Prod.snd = runC (0, []) ((pms L).take 0) from ⟨[], ⟨.slice none 0 0, Ob.new w 26 [.slice none 0 0], OwnX.nil _ _, Nat.le_refl _⟩, rfl⟩)
  clear hL hin
  go_enter Tryz.func13, Tryz.ntmps13
  go_wp2_with (go_at_call 48; (refine (hpr.out _ ((Ext.refl w).alloc _) h00.out).mono ?_; rintro ee w2 ⟨rfl, ⟨M, ⟨sv, hO, ho, hB⟩, hM⟩, hX2⟩; obtain ⟨A2, c2, e2⟩ := ho.form; subst e2; have q0 := hO.cell 0 rfl; have ql := hO.lt; haveI : In w.heap.size w2 := ⟨ql⟩; replace ho := hide ho; replace hM := hide hM; replace hX2 := hide hX2; clear hO))
  go_returns
  exact ⟨_, M, rfl, ho.out, by rw [hM.out, show (pms L).take L.length = pms L by rw [List.take_of_length_le]; simp [pms]], hX2.out⟩
set_option maxHeartbeats 4000000 in
set_option maxRecDepth 100000 in
theorem events_c : Calls Tryz.prog 15 #[v] w fun e w' => ∃ sv M, e = .returned sv ∧ OwnEx w' w.heap.size sv M ∧ M.map Prod.snd = (exL (runS (0, []) (pms L)).2).filter (fun x => !goneX x) ∧ Ext w w' := by
  have hpr := hide (fun w' (hX : Ext w w') (h0 : ∃ M, BxE w' w.heap.size w.heap.size M ∧ M.map Prod.snd = exL (runS (0, []) ((pms L).take 0)).2) => processE_c w L v w.heap.size (fun k w' => ∃ M, BxE w' w.heap.size w.heap.size M ∧ M.map Prod.snd = exL (runS (0, []) ((pms L).take k)).2) hL hin hlen w' hX h0 (fun k w1 w2 h hx => by obtain ⟨M, h1, h2⟩ := h; exact ⟨M, h1.ext hx, h2⟩) (fun k s mb w1 w2 h hst hF => by obtain ⟨M, h1, h2⟩ := h; exact ⟨M, h1.stay hst hF, h2⟩) (fun k p u w1 s mb hp hu hI hX1 hst => by
    obtain ⟨M, h1, h2⟩ := hI
    obtain ⟨PA, pc, ep⟩ := rw_val (hL.2 p (List.mem_of_getElem? hp))
    obtain ⟨T, hT⟩ := runS_inv ((pms L).take k)
    have hl := congrArg List.length h2
    rw [List.length_map] at hl
    unfold exL at hl
    rw [List.length_map] at hl
    have hl2 := runS_len ((pms L).take k) (0, [])
    simp only [List.length_nil, Nat.zero_add] at hl2
    have := pms_len L k
    have hser := chg_ser hT p.2
    have hr8 := chg_r8 hT p.2
    have hx1 := ex_none hT p.2
    have hx2 := ex_ins hT p.2
    have hx3 := ex_ret hT p.2
    rw [runS_take (pms_at hp)]
    generalize runS (0, []) ((pms L).take k) = S at *
    obtain ⟨pv, ⟨pk, pi, pf, pt⟩, pl⟩ := p
    simp only at *
    generalize hC : chg S ((pk, pi, pf, pt), pl) = C at *
    obtain ⟨cs, cr, ⟨o1, o2⟩, n1, n2⟩ := C
    simp only at *
    cases hs : decide (0 < cs)
    · rw [hs] at hser
      refine (evtPut0_c w w.heap.size s mb M pk pi pf pt u pv PA _ pc ep (cs, cr, (o1, o2), (n1, n2)) hu hs _ w1 h1 hX1 hst).mono ?_
      rintro e w2 ⟨k1, k2, k4⟩
      exact ⟨k1, ⟨M, k2, by rw [hx1 hser]; exact h2⟩, k4⟩
    · rw [hs] at hser
      by_cases h1k : pk = 1
      · subst h1k
        refine (evtPut1_c w w.heap.size s mb M pi pf pt u pv PA _ pc ep cs cr o1 o2 n1 n2 hu hr8 hs _ (by omega) w1 h1 hX1 hst).mono ?_
        rintro e w2 ⟨k1, ⟨M', k2, k3⟩, k4⟩
        exact ⟨k1, ⟨M', k2, by rw [hx2 hser rfl, k3, h2]⟩, k4⟩
      · obtain ⟨x, g1, g2, g3⟩ := hx3 hser h1k
        have hM : ∃ q, M[cs - 1]? = some q ∧ q.2 = x := by
          have : (M.map Prod.snd)[cs - 1]? = some x := by rw [h2]; exact g2
          rw [List.getElem?_map] at this
          cases hq : M[cs - 1]? with
          | none => rw [hq] at this; cases this
          | some q => rw [hq] at this; exact ⟨q, rfl, Option.some.inj this⟩
        obtain ⟨q, hq, rfl⟩ := hM
        refine (evtPut2_c w w.heap.size s mb M pk pi pf pt h1k u pv PA _ pc ep cs cr o1 o2 n1 n2 hu hs q hq _ (by omega) w1 h1 hX1 hst).mono ?_
        rintro e w2 ⟨k1, ⟨M', k2, k3⟩, k4⟩
        exact ⟨k1, ⟨M', k2, by rw [g3, k3, h2]⟩, k4⟩))
  obtain ⟨LA, lc, rfl, -, -, -⟩ := mw_form hL
  have h00 := hide (show ∃ M, BxE (w.alloc (.cells #[.slice none 0 0] 31)) w.heap.size w.heap.size M ∧ M.map Prod.snd = exL (runS (0, []) ((pms L).take 0)).2 from ⟨[], ⟨.slice none 0 0, Ob.new w 31 [.slice none 0 0], OwnX.nil _ _, Nat.le_refl _⟩, rfl⟩)
  have hlL := hide (runS_len (pms L) (0, []))
  have hdel := hide (fun M sv w' (ho : OwnEx w' w.heap.size sv M) (hX : Ext w w') (hn : M.length ≤ 200000) => evtDel_c w M sv w' ho hX hn)
  clear hL hin
  go_enter Tryz.func15, Tryz.ntmps15
  go_wp2_with (first | (go_at_call 48; (refine (hpr.out _ ((Ext.refl w).alloc _) h00.out).mono ?_; rintro ee w2 ⟨rfl, ⟨M, ⟨sv, hO, ho, hB⟩, hM⟩, hX2⟩; have hdl := hide (hdel.out M sv w2 ho hX2 (by have h1 := congrArg List.length hM; have h2 := hlL.out; rw [show (pms L).take L.length = pms L by rw [List.take_of_length_le]; simp [pms]] at h1; unfold exL at h1; rw [List.length_map, List.length_map] at h1; simp only [List.length_nil, Nat.zero_add, pms, List.length_map] at h1 h2; omega)); obtain ⟨A2, c2, e2⟩ := ho.form; subst e2; have q0 := hO.cell 0 rfl; have ql := hO.lt; haveI : In w.heap.size w2 := ⟨ql⟩; replace hM := hide hM; clear hO ho hX2)) | (go_at_call 56; (refine hdl.out.mono ?_; rintro ee w3 ⟨v3, rfl, ho3, hX3⟩; obtain ⟨A3, c3, e3⟩ := ho3.form; subst e3; replace ho3 := hide ho3; replace hX3 := hide hX3)))
  go_returns
  refine ⟨_, filtE M, rfl, ho3.out, ?_, hX3.out⟩
  have h1 := hM.out
  rw [show (pms L).take L.length = pms L by rw [List.take_of_length_le]; simp [pms]] at h1
  rw [← h1]
  unfold filtE
  rw [List.filter_map]
  rfl
end
end Go.Proofs.YtiknkcadbaeknaaGreat
set_option linter.unusedVariables false
set_option linter.unusedSimpArgs false
namespace Go.Proofs.YtiknkcadbaeknaaGreat
open Go.RowKit
attribute [local go_sem] GW.cell GW.frozen In.eq_true In.le_true In.ne In.ne' In.ne_add In.ne_add' In.lt_add Upto.le_true Upto.le_add Upto.lt_add
theorem eql_spn (a b c d : Int) (w : World) : (binOp .eql 42 (jm (a, b)) (jm (c, d))).run Tryz.prog w = .ok (.bool (a == c && b == d)) w := by
  by_cases h1 : a = c <;> by_cases h2 : b = d <;> simp [go_sem, h1, h2]
theorem neq_spn (a b c d : Int) (w : World) : (binOp .neq 42 (jm (a, b)) (jm (c, d))).run Tryz.prog w = .ok (.bool (!(a == c && b == d))) w := by
  by_cases h1 : a = c <;> by_cases h2 : b = d <;> simp [go_sem, h1, h2]
/-- A lifetime of what was there ahead of all ticks. -/
def fbB (j : Jp) : Bool := decide (j.1 = -1 ∧ 0 ≤ j.2 ∧ j.2 ≤ 1125899906842624)
/-- A piece: a row, and a lifetime. -/
def mayPc (e : Ed) : Bool := mayR e.1 && (smayB e.2.1 e.2.2 || fbB e.2)
set_option maxHeartbeats 1000000 in
theorem fromBefore_c (a b : Int) (w : World) : Calls Tryz.prog 207 #[.agg #[.int .i64 a, .int .i64 b]] w fun e w' => e = .returned (.bool (fbB (a, b))) ∧ Ext w w' := by
  obtain ⟨R, hR⟩ : ∃ R, R = fbB (a, b) := ⟨_, rfl⟩
  rw [← hR]
  unfold fbB at hR
  simp only at hR
  by_cases h1 : a = -1
  · subst h1
    by_cases h2 : 0 ≤ b
    · by_cases h3 : b ≤ 1125899906842624
      · have hf := hide (show R = true by rw [hR, decide_eq_true_iff]; omega)
        clear hR
        have d2 : decide (0 ≤ b) = true := decide_eq_true h2
        have d3 : decide (b ≤ 1125899906842624) = true := decide_eq_true h3
        go_enter Tryz.func207, Tryz.ntmps207
        go_wp2_with fail
        go_returns
        exact ⟨by rw [hf.out]; first | rfl | simp [d2, d3], (Ext.refl w).alloc _⟩
      · have hf := hide (show R = false by rw [hR, decide_eq_false_iff_not]; omega)
        clear hR
        have d2 : decide (0 ≤ b) = true := decide_eq_true h2
        have d3 : decide (b ≤ 1125899906842624) = false := decide_eq_false h3
        go_enter Tryz.func207, Tryz.ntmps207
        go_wp2_with fail
        go_returns
        exact ⟨by rw [hf.out]; first | rfl | simp [d2, d3], (Ext.refl w).alloc _⟩
    · have hf := hide (show R = false by rw [hR, decide_eq_false_iff_not]; omega)
      clear hR
      have d2 : decide (0 ≤ b) = false := decide_eq_false h2
      go_enter Tryz.func207, Tryz.ntmps207
      go_wp2_with fail
      go_returns
      exact ⟨by rw [hf.out]; first | rfl | simp [d2], (Ext.refl w).alloc _⟩
  · have hf := hide (show R = false by rw [hR, decide_eq_false_iff_not]; omega)
    have b1 : (a == -1) = false := by rw [beq_eq_false_iff_ne]; exact h1
    clear hR
    replace h1 := hide h1
    go_enter Tryz.func207, Tryz.ntmps207
    go_wp2_with fail
    go_returns
    exact ⟨by rw [hf.out]; first | rfl | simp [b1], (Ext.refl w).alloc _⟩
set_option maxHeartbeats 4000000 in
theorem pcMay_c (q : List Vl) (j : Jp) (v : Value) (w : World) (h : Rw w [] v q) : Calls Tryz.prog 150 #[em v j] w fun e w' => e = .returned (.bool (mayPc (q, j))) ∧ Ext w w' := by
  obtain ⟨a, b⟩ := j
  have h1 := hide (fun w' (hX : Ext w w') => rowMay_c q v w' (Sl.ext h hX))
  have h2 := hide (fun w => smay_c a b w)
  have h3 := hide (fun w => fromBefore_c a b w)
  obtain ⟨A, cap, rfl⟩ := rw_val h
  have hX0 := hide ((Ext.refl w).alloc (.cells #[.slice A q.length cap, .int .i64 a, .int .i64 b] 95))
  have he : mayPc (q, (a, b)) = (mayR q && (smayB a b || fbB (a, b))) := rfl
  rw [he]
  generalize mayR q = m1 at *
  generalize smayB a b = m2 at *
  generalize fbB (a, b) = m3 at *
  clear h he
  cases m1
  · go_enter Tryz.func150, Tryz.ntmps150
    go_wp2_with (go_at_call 77; (with_reducible refine seq_gw (h1.out _ hX0.out) ?_); intro g)
    go_returns
    exact ⟨rfl, hX0.out.trans g.grown⟩
  cases m2
  · go_enter Tryz.func150, Tryz.ntmps150
    go_wp2_with (first | (go_at_call 77; (with_reducible refine seq_gw (h1.out _ hX0.out) ?_); intro g) | (go_at_call 133; (with_reducible refine seq_gw' (h2.out _) ?_); intro g2) | (go_at_call 207; (with_reducible refine seq_gw' (h3.out _) ?_); intro g3))
    go_returns
    exact ⟨by first | rfl | simp, hX0.out.trans g3.grown⟩
  · go_enter Tryz.func150, Tryz.ntmps150
    go_wp2_with (first | (go_at_call 77; (with_reducible refine seq_gw (h1.out _ hX0.out) ?_); intro g) | (go_at_call 133; (with_reducible refine seq_gw' (h2.out _) ?_); intro g2))
    go_returns
    exact ⟨by first | rfl | simp, hX0.out.trans g2.grown⟩
set_option maxHeartbeats 1000000 in
theorem pcNone_c (q : List Vl) (j : Jp) (v : Value) (w : World) (h : Rw w [] v q) : Calls Tryz.prog 91 #[em v j] w fun e w' => e = .returned (.bool (!mayPc (q, j))) ∧ Ext w w' := by
  have h1 := hide (fun w' (hX : Ext w w') => pcMay_c q j v w' (Sl.ext h hX))
  obtain ⟨a, b⟩ := j
  obtain ⟨A, cap, rfl⟩ := rw_val h
  have hX0 := hide ((Ext.refl w).alloc (.cells #[.slice A q.length cap, .int .i64 a, .int .i64 b] 95))
  generalize mayPc (q, (a, b)) = m at *
  clear h
  go_enter Tryz.func91, Tryz.ntmps91
  go_wp2_with (go_at_call 150; (with_reducible refine seq_gw (h1.out _ hX0.out) ?_); intro g)
  go_returns
  exact ⟨by first | rfl | simp, hX0.out.trans g.grown⟩
attribute [local go_sem] eql_spn neq_spn
set_option maxHeartbeats 2000000 in
theorem indexPc_c (L : List Ve) (v : Value) (w : World) (h : Ew w [] v L) : Calls Tryz.prog 149 #[v, .func (.func 91) #[] #[]] w fun e w' => e = .returned (.int .i64 (idxP (fun x : Ve => mayPc x.2) 0 L)) ∧ Ext w w' := by
  obtain ⟨A, cap, rfl, hl, hm, hat⟩ := ew_form h
  unfold maxLen at hm
  replace hat := hide hat
  have hrows := hide h.2
  clear h
  obtain ⟨R, hR⟩ : ∃ R, R = idxP (fun x : Ve => mayPc x.2) 0 L := ⟨_, rfl⟩
  rw [← hR]
  replace hR := hide hR
  go_enter Tryz.func149, Tryz.ntmps149
  go_wp2_with fail
  go_loopg [8] L.length (fun gh i wr => ∃ (k : Nat), i = .int .i64 k ∧ k + gh = L.length ∧ Hid (R = idxP (fun x : Ve => mayPc x.2) k (L.drop k)) ∧ Ext w wr)
  case atStart => exact ⟨0, rfl, by omega, by simpa using hR, Ext.refl w⟩
  case round =>
    obtain ⟨k, rfl, hk, hRk, hX⟩ := hrel
    clear hR
    by_cases hlt : k < L.length
    · obtain ⟨x, hx⟩ : ∃ x, L[k]? = some x := ⟨_, List.getElem?_eq_getElem hlt⟩
      obtain ⟨b, o, rfl, -, hb, c0, c1, c2⟩ := hat.out k x hx
      have k0 := cell_later hX c0
      have k1 := cell_later hX c1
      have k2 := cell_later hX c2
      have hbr : b < wr.heap.size := block_lt_of_cell k0
      have hrw := Sl.ext (hrows.out x (List.mem_of_getElem? hx)) hX
      have hR2 := hRk.out
      rw [drop_cons hx] at hR2
      obtain ⟨xv, xq, xa, xn⟩ := x
      simp only at k0 k1 k2 hrw
      have hin := hide (fun w' (hXw : Ext wr w') => pcNone_c xq (xa, xn) xv w' (Sl.ext hrw hXw))
      have hX00 := hide (Ext.refl wr)
      obtain ⟨XA, xcap, rfl⟩ := rw_val hrw
      clear c0 c1 c2 hat hx hrows hrw
      cases hmx : mayPc (xq, (xa, xn))
      · rw [hmx] at hin
        rw [idxP_no (p := (fun x : Ve => mayPc x.2)) (x := (.slice XA xq.length xcap, xq, xa, xn)) hmx] at hR2
        replace hR2 := hide hR2
        replace hmx := hide hmx
        go_wp2_with (go_at_call 91; (with_reducible refine seq_gw (hin.out _ hX00.out) ?_); intro g)
        go_returns
        exact ⟨by rw [hR2.out]; rfl, hX.trans g.grown⟩
      · rw [hmx] at hin
        rw [idxP_yes (p := (fun x : Ve => mayPc x.2)) (x := (.slice XA xq.length xcap, xq, xa, xn)) hmx] at hR2
        replace hR2 := hide hR2
        replace hmx := hide hmx
        go_wp2_with (go_at_call 91; (with_reducible refine seq_gw (hin.out _ hX00.out) ?_); intro g)
        go_roundg (L.length - (k + 1))
        case measure => omega
        case rel => exact ⟨k + 1, by go_num, by omega, hR2, hX.trans g.grown⟩
    · have hk' : k = L.length := by omega
      have hge : (L.length : Int) ≤ k := by omega
      have hR2 := hRk.out
      rw [hk', List.drop_length] at hR2
      replace hR2 := hide hR2
      replace hk' := hide hk'
      go_wp2_with fail
      go_returns
      exact ⟨by rw [hR2.out]; rfl, hX⟩
set_option maxHeartbeats 1000000 in
theorem containsPc_c (L : List Ve) (v : Value) (w : World) (h : Ew w [] v L) : Calls Tryz.prog 90 #[v, .func (.func 91) #[] #[]] w fun e w' => e = .returned (.bool (!L.all (fun x : Ve => mayPc x.2))) ∧ Ext w w' := by
  have hc := hide (indexPc_c L v w h)
  have e := hide (idxP_ge (fun x : Ve => mayPc x.2) 0 L)
  generalize idxP (fun x : Ve => mayPc x.2) 0 L = z at *
  obtain ⟨A, cap, rfl, -, -, -⟩ := ew_form h
  clear h
  go_enter Tryz.func90, Tryz.ntmps90
  go_wp2_with (go_at_call 149; (with_reducible refine seq_gw hc.out ?_); intro g)
  go_returns
  exact ⟨by rw [← e.out]; first | rfl | simp, g.grown⟩
end Go.Proofs.YtiknkcadbaeknaaGreat
