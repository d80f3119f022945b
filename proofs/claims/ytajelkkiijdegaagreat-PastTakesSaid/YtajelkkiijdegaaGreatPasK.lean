/-
  A helper of ours: no claim of its own. Layer 14 (past): the last of a list, how many are known, the clock.
-/
import Derived.Test.YtajelkkiijdegaaGreatFolXH
import Derived.Test.YtajelkkiijdegaaGreatReg5
import Derived.Test.YtajelkkiijdegaaGreatEdgEn
import Derived.Test.YtajelkkiijdegaaGreatFolPA
import Derived.Test.YtajelkkiijdegaaGreatFolPH
import Derived.Test.YtajelkkiijdegaaGreatPasJ
set_option linter.unusedVariables false
set_option linter.unusedSimpArgs false
namespace Go.Proofs.YtajelkkiijdegaaGreat
open Go.RowKit
attribute [local go_sem] GW.cell GW.frozen In.eq_true In.le_true In.ne In.ne' In.ne_add In.ne_add' In.lt_add Upto.le_true Upto.le_add Upto.lt_add
def evO (v : Value) (x : Ex) : List Value := [.int .i64 x.1.1, v, .int .i64 x.2.1, .int .i64 x.2.2]
abbrev evV (v : Value) (x : Ex) : Value := .agg #[.int .i64 x.1.1, v, .int .i64 x.2.1, .int .i64 x.2.2]
theorem tEvs : ElemT Tryz.prog 46 59 (.agg #[.int .i64 0, .slice none 0 0, .int .i64 0, .int .i64 0]) 4 48 := ElemT.mk' Tryz.underlying46 (by kernel_rfl) rfl (by omega)
theorem evO_new (u : Value) (x : Ex) (w : World) : Sl (w.alloc (.cells (evO u x).toArray 59)) [] 4 (.slice (some ⟨w.heap.size, 0, none⟩) 1 1) 1 (evO u x) :=
  Sl.own (World.ownsRow_lit (base := w.heap.size) (e := 59) (size := 4) w (evO u x).toArray 1 (Nat.le_refl _) (by decide) rfl) (by simp)
theorem evO_one {UA : Option Addr} {ul uc : Nat} {x : Ex} : ∀ y ∈ evO (.slice UA ul uc) x, y.oneCell' = true := by
  intro y hy; simp [evO] at hy; rcases hy with rfl | rfl | rfl | rfl <;> rfl
theorem buildEv (A : Option Addr) (n cap : Nat) (x : Ex) (w : World) : (Instr.buildSlice 46 1 #[(0, evV (.slice A n cap) x)]).run Tryz.prog w = .ok (.slice (some ⟨w.heap.size, 0, none⟩) 1 1) (w.alloc (.cells #[.int .i64 x.1.1, .slice A n cap, .int .i64 x.2.1, .int .i64 x.2.2] 59)) := by
  simp [go_sem]
def rowOF (r : List Vl) : Fact := .st (fun u w => RwO w u r) (fun _ _ _ h k => RwO.ext h k)
def evtF (x : Ex) : Fact := .st (fun u w => ∃ A cp, u = evV (.slice A x.1.2.length cp) x ∧ RwO w (.slice A x.1.2.length cp) x.1.2) (fun _ _ _ h k => by obtain ⟨A, cp, e, h⟩ := h; exact ⟨A, cp, e, RwO.ext h k⟩)
theorem rwo_val {w : World} {v : Value} {l : List Vl} (h : RwO w v l) : ∃ A cap, v = .slice A l.length cap := own_form h
end Go.Proofs.YtajelkkiijdegaaGreat
set_option linter.unusedVariables false
set_option linter.unusedSimpArgs false
namespace Go.Proofs.YtajelkkiijdegaaGreat
open Go.RowKit
attribute [local go_sem] GW.cell GW.frozen In.eq_true In.le_true In.ne In.ne' In.ne_add In.ne_add' In.lt_add Upto.le_true Upto.le_add Upto.lt_add
abbrev evs (L : List (Value × Ex)) : List Value := L.flatMap fun p => evO p.1 p.2
end Go.Proofs.YtajelkkiijdegaaGreat
set_option linter.unusedVariables false
set_option linter.unusedSimpArgs false
namespace Go.Proofs.YtajelkkiijdegaaGreat
open Go.RowKit
attribute [local go_sem] GW.cell GW.frozen In.eq_true In.le_true In.ne In.ne' In.ne_add In.ne_add' In.lt_add Upto.le_true Upto.le_add Upto.lt_add
end Go.Proofs.YtajelkkiijdegaaGreat
set_option linter.unusedVariables false
set_option linter.unusedSimpArgs false
namespace Go.Proofs.YtajelkkiijdegaaGreat
open Go.RowKit
attribute [local go_sem] GW.cell GW.frozen In.eq_true In.le_true In.ne In.ne' In.ne_add In.ne_add' In.lt_add Upto.le_true Upto.le_add Upto.lt_add
end Go.Proofs.YtajelkkiijdegaaGreat
set_option linter.unusedVariables false
set_option linter.unusedSimpArgs false
namespace Go.Proofs.YtajelkkiijdegaaGreat
open Go.RowKit
attribute [local go_sem] GW.cell GW.frozen In.eq_true In.le_true In.ne In.ne' In.ne_add In.ne_add' In.lt_add Upto.le_true Upto.le_add Upto.lt_add
theorem run_inv : ∀ (l : List PM) (s : StD), (∃ T, InvF T s) → ∃ T, InvF T (runS s l)
  | [], _, h => h
  | m :: r, s, ⟨T, h⟩ => run_inv r (stp s m) ⟨_, h.step m (.slice none 0 0)⟩
theorem runS_inv (l : List PM) : ∃ T, InvF T (runS (0, []) l) := run_inv l _ ⟨[], InvF.nil⟩
theorem mayR8 {r : List Vl} (h : mayR r = true) : r.length ≤ 8 := (mayR_iff.1 h).1
theorem chg_r8 {T : List Ke} {S : StD} (hI : InvF T S) (m : PM) : (chg S m).2.1.length ≤ 8 := by
  unfold chg
  split
  · rename_i h0
    have hz := h0
    rw [hI.chk] at hz
    obtain ⟨z1, -⟩ := chkO_zero hz
    rw [hI.change m h0]
    by_cases h3 : m.1.1 = 3
    · rw [if_pos h3]; exact Nat.zero_le _
    · rw [if_neg h3]
      by_cases h1 : m.1.1 = 1
      · rw [if_pos h1]
        unfold mkM at z1
        rw [h1] at z1
        exact mayR8 (mchk_one z1).1
      · rw [if_neg h1]
        obtain ⟨h1', h2'⟩ := hI.free m.1.2.1
        cases hp : atK (freeK T S.1 m.1.2.1) m.1.2.1 with
        | none => exact Nat.zero_le _
        | some p =>
          obtain ⟨g1, g2⟩ := h1'.known p (atK_some hp).1 (h2' p hp)
          exact mayR8 (hI.evs _ (List.mem_of_getElem? g2)).2.2.2.1
  · exact Nat.zero_le _
theorem pms_at {L : List Vm} {k : Nat} {p : Vm} (h : L[k]? = some p) : (pms L)[k]? = some p.2 := by unfold pms; rw [List.getElem?_map, h]; rfl
theorem pms_len (L : List Vm) (k : Nat) : ((pms L).take k).length ≤ L.length := by rw [List.length_take, pms, List.length_map]; omega
section
variable (L : List Vm) (v : Value) (w : World) (hL : Mw w [] v L) (hin : ∀ p ∈ L, inM p.2) (hlen : L.length ≤ 100000)
include hL hin hlen
set_option maxHeartbeats 4000000 in
set_option maxRecDepth 100000 in
theorem answers_c : Calls Tryz.prog 89 #[v] w fun e w' => ∃ sv, e = .returned sv ∧ w'.ownsRow w.heap.size 27 1 sv (runE (0, []) (pms L)).length (ns (runE (0, []) (pms L))) ∧ Ext w w' := by
  have hpr := hide (fun w' (hX : Ext w w') (h0 : BxA w' w.heap.size w.heap.size (runE (0, []) ((pms L).take 0))) => processA_c w L v w.heap.size (fun k w' => BxA w' w.heap.size w.heap.size (runE (0, []) ((pms L).take k))) hL hin hlen w' hX h0 (fun k w1 w2 h hx => h.ext hx) (fun k s mb w1 w2 h hst hF => h.stay hst hF) (fun k p u w1 s mb hp hu hI hX1 hst => by
    obtain ⟨UA, uc, eu⟩ := rw_val hu
    obtain ⟨PA, pc, ep⟩ := rw_val (hL.2 p (List.mem_of_getElem? hp))
    have hl := runE_len ((pms L).take k) (0, [])
    have := pms_len L k
    refine (ansPut_c w w.heap.size s mb _ p.2.1.1 p.2.1.2.1 p.2.1.2.2.1 p.2.1.2.2.2 u p.1 PA UA _ pc _ uc ep eu _ _ (by omega) w1 hI hX1 hst).mono ?_
    rintro e w2 ⟨h1, h2, h3⟩
    rw [runE_take (pms_at hp)]
    exact ⟨h1, h2, h3⟩))
  obtain ⟨LA, lc, rfl, -, -, -⟩ := mw_form hL
  have h00 := hide (show BxA (w.alloc (.cells #[.slice none 0 0] 160)) w.heap.size w.heap.size (runE (0, []) ((pms L).take 0)) from ⟨.slice none 0 0, Ob.new w 160 [.slice none 0 0], World.ownsRow_nil _ _ _ _, Nat.le_refl _⟩)
  clear hL hin
  go_enter Tryz.func89, Tryz.ntmps89
  go_wp2_with (go_at_call 91; (refine (hpr.out _ ((Ext.refl w).alloc _) h00.out).mono ?_; rintro ee w2 ⟨rfl, ⟨sv, hO, ho, hB⟩, hX2⟩; obtain ⟨A2, c2, e2⟩ := own_form ho; subst e2; have q0 := hO.cell 0 rfl; have ql := hO.lt; haveI : In w.heap.size w2 := ⟨ql⟩; replace ho := hide ho; replace hX2 := hide hX2; clear hO))
  go_returns
  refine ⟨_, rfl, ?_, hX2.out⟩
  have h1 := ho.out
  rw [show (pms L).take L.length = pms L by rw [List.take_of_length_le]; simp [pms]] at h1 ⊢
  exact h1
set_option maxHeartbeats 4000000 in
set_option maxRecDepth 100000 in
theorem changes_c : Calls Tryz.prog 43 #[v] w fun e w' => ∃ sv M, e = .returned sv ∧ OwnCh w' w.heap.size sv M ∧ M.map Prod.snd = runC (0, []) (pms L) ∧ Ext w w' := by
  have hpr := hide (fun w' (hX : Ext w w') (h0 : ∃ M, BxH w' w.heap.size w.heap.size M ∧ M.map Prod.snd = runC (0, []) ((pms L).take 0)) => processH_c w L v w.heap.size (fun k w' => ∃ M, BxH w' w.heap.size w.heap.size M ∧ M.map Prod.snd = runC (0, []) ((pms L).take k)) hL hin hlen w' hX h0 (fun k w1 w2 h hx => by obtain ⟨M, h1, h2⟩ := h; exact ⟨M, h1.ext hx, h2⟩) (fun k s mb w1 w2 h hst hF => by obtain ⟨M, h1, h2⟩ := h; exact ⟨M, h1.stay hst hF, h2⟩) (fun k p u w1 s mb hp hu hI hX1 hst => by
    obtain ⟨M, h1, h2⟩ := hI
    obtain ⟨PA, pc, ep⟩ := rw_val (hL.2 p (List.mem_of_getElem? hp))
    obtain ⟨T, hT⟩ := runS_inv ((pms L).take k)
    have hl := congrArg List.length h2
    rw [List.length_map] at hl
    have hl2 := runC_len ((pms L).take k) (0, [])
    have := pms_len L k
    refine (chgPut_c w w.heap.size s mb M p.2.1.1 p.2.1.2.1 p.2.1.2.2.1 p.2.1.2.2.2 u p.1 PA _ pc ep _ hu (chg_r8 hT p.2) _ (by omega) w1 h1 hX1 hst).mono ?_
    rintro e w2 ⟨k1, ⟨M', k2, k3⟩, k4⟩
    refine ⟨k1, ⟨M', k2, ?_⟩, k4⟩
    rw [runC_take (pms_at hp), k3, h2, chg_ser hT]))
  obtain ⟨LA, lc, rfl, -, -, -⟩ := mw_form hL
  have h00 := hide (show ∃ M, BxH (w.alloc (.cells #[.slice none 0 0] 53)) w.heap.size w.heap.size M ∧ M.map Prod.snd = runC (0, []) ((pms L).take 0) from ⟨[], ⟨.slice none 0 0, Ob.new w 53 [.slice none 0 0], OwnX.nil _ _, Nat.le_refl _⟩, rfl⟩)
  clear hL hin
  go_enter Tryz.func43, Tryz.ntmps43
  go_wp2_with (go_at_call 91; (refine (hpr.out _ ((Ext.refl w).alloc _) h00.out).mono ?_; rintro ee w2 ⟨rfl, ⟨M, ⟨sv, hO, ho, hB⟩, hM⟩, hX2⟩; obtain ⟨A2, c2, e2⟩ := ho.form; subst e2; have q0 := hO.cell 0 rfl; have ql := hO.lt; haveI : In w.heap.size w2 := ⟨ql⟩; replace ho := hide ho; replace hM := hide hM; replace hX2 := hide hX2; clear hO))
  go_returns
  exact ⟨_, M, rfl, ho.out, by rw [hM.out, show (pms L).take L.length = pms L by rw [List.take_of_length_le]; simp [pms]], hX2.out⟩
end
end Go.Proofs.YtajelkkiijdegaaGreat
set_option linter.unusedVariables false
set_option linter.unusedSimpArgs false
namespace Go.Proofs.YtajelkkiijdegaaGreat
open Go.RowKit
attribute [local go_sem] GW.cell GW.frozen In.eq_true In.le_true In.ne In.ne' In.ne_add In.ne_add' In.lt_add Upto.le_true Upto.le_add Upto.lt_add
set_option maxHeartbeats 4000000 in
set_option maxRecDepth 100000 in
theorem plastM_c (L0 : List Vm) (q : Vm) (v : Value) (w : World) (hL : Mw w [] v (L0 ++ [q])) (hlen : L0.length ≤ 100000) : Calls Tryz.prog 86 #[v] w fun e w' => e = .returned (mg q.2.1.1 q.2.1.2.1 q.2.1.2.2.1 q.2.1.2.2.2 q.1) ∧ Ext w w' := by
  obtain ⟨QA, qc, hq⟩ := rw_val (hL.2 q (by simp))
  obtain ⟨A, cap, rfl, h1, h2, h3⟩ := mw_form hL
  obtain ⟨b, o, rfl, -, hb, c0, c1, c2, c3, c4⟩ := h3 L0.length q (by simp)
  obtain ⟨qv, ⟨k, i, f, t⟩, r⟩ := q
  simp only at *
  subst hq
  have hn : (L0 ++ [((.slice QA r.length qc : Value), (((k, i, f, t), r) : PM))]).length = L0.length + 1 := by simp
  rw [hn] at h1 ⊢
  unfold maxLen at h2
  generalize L0.length = N at *
  haveI : In b w := ⟨hb⟩
  have hN : (N : Int) < N + 1 := by omega
  clear hL h3 hn
  go_enter Tryz.func86, Tryz.ntmps86
  go_wp2_with fail
  go_returns
  exact ⟨rfl, (Ext.refl w).alloc _⟩
set_option maxHeartbeats 4000000 in
set_option maxRecDepth 100000 in
theorem plastC_c (M0 : List (Value × Ch)) (q : Value × Ch) (v : Value) (w : World) (base : Nat) (hL : OwnCh w base v (M0 ++ [q])) (hlen : M0.length ≤ 100000) : Calls Tryz.prog 42 #[v] w fun e w' => e = .returned (.agg (chO q.1 q.2).toArray) ∧ Ext w w' := by
  obtain ⟨QA, qc, hq⟩ := own_form (hL.2 q (by simp))
  obtain ⟨qv, k, r, ⟨o1, o2⟩, n1, n2⟩ := q
  simp only at *
  subst hq
  have hn : (M0 ++ [((.slice QA r.length qc : Value), ((k, r, (o1, o2), n1, n2) : Ch))]).length = M0.length + 1 := by simp
  have hown := hL.1
  rw [hn] at hown
  have hlm : (M0.flatMap fun p => chO p.1 p.2).length = M0.length * 6 := by
    clear hL hown hn hlen
    induction M0 with
    | nil => rfl
    | cons p r ih => rw [List.flatMap_cons, List.length_append, ih, List.length_cons]; simp [chO]; omega
  obtain ⟨b, o, rfl⟩ : ∃ (b : Nat) (cap : Nat), v = .slice (some ⟨b, 0, none⟩) (M0.length + 1) cap := by
    rcases hown.2 with ⟨h', h0⟩ | ⟨g, cap, cur, h', -⟩
    · omega
    · exact ⟨g, cap, h'⟩
  have hb := (World.ownsRow.lt hown b rfl).2
  have hc : ∀ j u, (chO (.slice QA r.length qc) (k, r, (o1, o2), n1, n2))[j]? = some u → w.cell? ⟨b, M0.length * 6 + j, none⟩ = some u := fun j u hj => by
    have hj6 : j < 6 := by have := (List.getElem?_eq_some_iff.1 hj).1; simpa [chO] using this
    rw [World.ownsRow.cellAt hown _ (by omega), List.flatMap_append, List.getElem?_append_right (by omega), hlm, Nat.add_sub_cancel_left]
    simpa using hj
  have c0 := hc 0 _ rfl
  have c1 := hc 1 _ rfl
  have c2 := hc 2 _ rfl
  have c3 := hc 3 _ rfl
  have c4 := hc 4 _ rfl
  have c5 := hc 5 _ rfl
  have hle := hown.2
  replace hle : M0.length + 1 ≤ o ∧ o ≤ 9223372036854775807 := by
    rcases hle with ⟨h', h0⟩ | ⟨g, cap, cur, h', hb, hg, hnc, hcm, -⟩
    · omega
    · simp only [Value.slice.injEq] at h'
      unfold maxLen at hcm
      exact ⟨by omega, by omega⟩
  obtain ⟨hle1, hle2⟩ := hle
  simp only [Nat.add_zero] at c0
  generalize M0.length = N at *
  haveI : In b w := ⟨hb⟩
  have hN : (N : Int) < N + 1 := by omega
  clear hL hn hown hlm hc
  go_enter Tryz.func42, Tryz.ntmps42
  go_wp2_with fail
  go_returns
  exact ⟨rfl, (Ext.refl w).alloc _⟩
set_option maxHeartbeats 4000000 in
set_option maxRecDepth 100000 in
theorem plastE_c (l : List Int) (x : Int) (v : Value) (w : World) (base : Nat) (hL : w.ownsRow base 27 1 v (l ++ [x]).length (ns (l ++ [x]))) (hlen : l.length ≤ 100000) : Calls Tryz.prog 88 #[v] w fun e w' => e = .returned (.int .i64 x) ∧ Ext w w' := by
  have hn : (l ++ [x]).length = l.length + 1 := by simp
  rw [hn] at hL
  obtain ⟨b, o, rfl⟩ : ∃ (b : Nat) (cap : Nat), v = .slice (some ⟨b, 0, none⟩) (l.length + 1) cap := by
    rcases hL.2 with ⟨h', h0⟩ | ⟨g, cap, cur, h', -⟩
    · omega
    · exact ⟨g, cap, h'⟩
  have hb := (World.ownsRow.lt hL b rfl).2
  have c0 : w.cell? ⟨b, l.length, none⟩ = some (.int .i64 x) := by
    have := World.ownsRow.cellAt hL l.length (by omega)
    rw [this]
    simp [ns]
  have hle := hL.2
  replace hle : l.length + 1 ≤ o ∧ o ≤ 9223372036854775807 := by
    rcases hle with ⟨h', h0⟩ | ⟨g, cap, cur, h', hb, hg, hnc, hcm, -⟩
    · omega
    · simp only [Value.slice.injEq] at h'
      unfold maxLen at hcm
      exact ⟨by omega, by omega⟩
  obtain ⟨hle1, hle2⟩ := hle
  generalize l.length = N at *
  haveI : In b w := ⟨hb⟩
  have hN : (N : Int) < N + 1 := by omega
  clear hL hn
  go_enter Tryz.func88, Tryz.ntmps88
  go_wp2_with fail
  go_returns
  exact ⟨rfl, Ext.refl _⟩
section
variable {base p : Nat} {sc : List Cl} {c ser : Int} {mb n : Nat} {L : List Pb}
set_option maxHeartbeats 2000000 in
theorem pcount_c (w : World) (h : Pz w base p sc c ser mb n L) : Calls Tryz.prog 9 #[.pointer (some ⟨p, 0, none⟩)] w fun e w' => e = .returned (.int .i64 (L.length : Int)) ∧ Ext w w' := by
  obtain ⟨⟨sv, u, hP, -⟩, hM, -⟩ := h
  have c3 := hP.ob.cell 3 rfl
  haveI : In p w := ⟨hP.ob.lt⟩
  have hl := hM.len Tryz.underlying88
  go_enter Tryz.func9, Tryz.ntmps9
  go_wp2_with fail
  go_returns
  exact ⟨rfl, Ext.refl _⟩
set_option maxHeartbeats 2000000 in
theorem pclock_c (w : World) (h : Pz w base p sc c ser mb n L) : Calls Tryz.prog 13 #[.pointer (some ⟨p, 0, none⟩)] w fun e w' => e = .returned (.int .i64 c) ∧ Ext w w' := by
  obtain ⟨⟨sv, u, hP, -⟩, hM, -⟩ := h
  have c1 := hP.ob.cell 1 rfl
  haveI : In p w := ⟨hP.ob.lt⟩
  clear hM hP
  go_enter Tryz.func13, Tryz.ntmps13
  go_wp2_with fail
  go_returns
  exact ⟨rfl, Ext.refl _⟩
end
end Go.Proofs.YtajelkkiijdegaaGreat
