/-
  A helper of ours: no claim of its own. Layer 13 (fold): where process stands.
-/
import Derived.Test.YtkfdkjjocdbolaaFolD
set_option linter.unusedVariables false
set_option linter.unusedSimpArgs false
namespace Go.Proofs.Ytkfdkjjocdbolaa
open Go.RowKit
/-- Block s is a state, block mb a map. -/
def StOk (w : World) (s mb : Nat) : Prop := (∃ vs, Ob w s 87 vs) ∧ ∃ es c, w.heap[mb]? = some (.map es c)
theorem StOk.ext {w w' : World} {s mb : Nat} (h : StOk w s mb) (k : Ext w w') : StOk w' s mb := by
  obtain ⟨⟨vs, h1⟩, es, c, h2⟩ := h
  exact ⟨⟨vs, h1.ext k⟩, es, c, (k.block mb (lt_of_block h2)).trans h2⟩
theorem Fs.ok {w : World} {s mb n : Nat} {c ser : Int} {T : List Ke} (h : Fs w s mb n c ser T) : StOk w s mb := by
  obtain ⟨h1, es, ⟨es', c', g1, -⟩, -⟩ := h
  exact ⟨⟨_, h1⟩, _, _, g1⟩
theorem Fs.same {w w' : World} {s mb n : Nat} {c ser : Int} {T : List Ke} (h : Fs w s mb n c ser T) (h1 : w'.heap[s]? = w.heap[s]?) (h2 : w'.heap[mb]? = w.heap[mb]?) : Fs w' s mb n c ser T := by
  obtain ⟨k1, es, ⟨es', c', g1, r⟩, k2⟩ := h
  exact ⟨h1.trans k1, es, ⟨es', c', h2.trans g1, r⟩, k2⟩
theorem tk_len (s : StD) (m : PM) : (tk s m).1.2.length ≤ s.2.length + 1 := by
  unfold tk
  split
  · exact Nat.le_succ _
  · split
    · rw [List.length_append, List.length_singleton]; exact Nat.le_refl _
    · split
      · exact Nat.le_succ _
      · rw [List.length_set]; exact Nat.le_succ _
theorem stp_len (s : StD) (m : PM) : (stp s m).2.length ≤ s.2.length + 1 := by
  unfold stp
  split
  · exact tk_len s m
  · exact Nat.le_succ _
theorem runS_len : ∀ (l : List PM) (s : StD), (runS s l).2.length ≤ s.2.length + l.length
  | [], s => Nat.le_refl _
  | m :: r, s => by
    have h1 := runS_len r (stp s m)
    have h2 := stp_len s m
    show (runS (stp s m) r).2.length ≤ _
    rw [List.length_cons]; omega
theorem stp_clk (S : StD) (m : PM) : (stp S m).1 = if chkD S m = 0 ∧ m.1.1 = 3 then m.1.2.2.1 else S.1 := by
  unfold stp
  by_cases h0 : chkD S m = 0
  · rw [if_pos h0]
    unfold tk
    by_cases h3 : m.1.1 = 3
    · rw [if_pos h3, if_pos ⟨h0, h3⟩]
    · have e : (if chkD S m = 0 ∧ m.1.1 = 3 then m.1.2.2.1 else S.1) = S.1 := if_neg (fun h => h3 h.2)
      rw [e, if_neg h3]
      split
      · rfl
      · split <;> rfl
  · rw [if_neg h0, if_neg (fun h => h0 h.1)]
/-- Whether there is a change is told by its serial. -/
theorem chg_ser {T : List Ke} {S : StD} (hI : InvF T S) (m : PM) : isC S m = decide (0 < (chg S m).1) := by
  unfold isC chg
  by_cases h0 : chkD S m = 0
  · rw [if_pos h0, hI.change m h0]
    by_cases h3 : m.1.1 = 3
    · rw [if_pos h3]
      simp [h0, h3, zCh]
    · rw [if_neg h3]
      have hz := h0
      rw [hI.chk] at hz
      obtain ⟨z1, z2, z3, z4⟩ := chkO_zero hz
      have hk := mchk_kind z1
      by_cases h1 : m.1.1 = 1
      · rw [if_pos h1]
        simp [h0, h3]
      · rw [if_neg h1]
        have h2 : m.1.1 = 2 := by rcases hk with hk | hk | hk; exact absurd hk h1; exact hk; exact absurd hk h3
        obtain ⟨e, he, -⟩ := z2 h2
        unfold knK at he
        cases hp : atK (freeK T S.1 m.1.2.1) m.1.2.1 with
        | none => rw [hp] at he; cases he
        | some p =>
          obtain ⟨h1', h2'⟩ := hI.free m.1.2.1
          obtain ⟨g1, -⟩ := h1'.known p (atK_some hp).1 (h2' p hp)
          simp [h0, h3]
          omega
  · rw [if_neg h0]
    simp [h0, zCh]
/-- What the code keeps as events: those that were cancelled have no lifetime. -/
abbrev Ex := (Int × List Vl) × Spn
def exE (e : Ev) : Ex := (e.1, if e.2.2 then (0, 0) else e.2.1)
def exL (l : List Ev) : List Ex := l.map exE
theorem ex_none {T : List Ke} {S : StD} (hI : InvF T S) (m : PM) (h : isC S m = false) : exL (stp S m).2 = exL S.2 := by
  unfold isC at h
  simp only [decide_eq_false_iff_not, not_and, Decidable.not_not] at h
  unfold stp
  split
  · rename_i h0
    unfold tk
    rw [if_pos (h h0)]
  · rfl
theorem ex_ins {T : List Ke} {S : StD} (hI : InvF T S) (m : PM) (h : isC S m = true) (h1 : m.1.1 = 1) : exL (stp S m).2 = exL S.2 ++ [((m.1.2.1, (chg S m).2.1), (chg S m).2.2.2)] := by
  unfold isC at h
  simp only [decide_eq_true_iff] at h
  unfold stp chg
  rw [if_pos h.1, if_pos h.1]
  unfold tk
  rw [if_neg h.2, if_pos h1]
  simp [exL, exE]
theorem ex_ret {T : List Ke} {S : StD} (hI : InvF T S) (m : PM) (h : isC S m = true) (h1 : m.1.1 ≠ 1) : ∃ x : Ex, 1 ≤ (chg S m).1 ∧ (exL S.2)[(chg S m).1 - 1]? = some x ∧ exL (stp S m).2 = (exL S.2).set ((chg S m).1 - 1) (x.1, (chg S m).2.2.2) := by
  unfold isC at h
  simp only [decide_eq_true_iff] at h
  have hz := h.1
  rw [hI.chk] at hz
  obtain ⟨z1, z2, z3, z4⟩ := chkO_zero hz
  have hk := mchk_kind z1
  have h2 : m.1.1 = 2 := by rcases hk with hk | hk | hk; exact absurd hk h1; exact hk; exact absurd hk h.2
  obtain ⟨e, he, -⟩ := z2 h2
  unfold knK at he
  have hkn := hI.kn_free m.1.2.1
  obtain ⟨h1', h2'⟩ := hI.free m.1.2.1
  cases hp : atK (freeK T S.1 m.1.2.1) m.1.2.1 with
  | none => rw [hp] at he; cases he
  | some p =>
    obtain ⟨g1, g2⟩ := h1'.known p (atK_some hp).1 (h2' p hp)
    rw [hp, Option.map_some] at hkn
    have hpi := (atK_some hp).2
    unfold stp chg
    rw [if_pos h.1, if_pos h.1]
    unfold tk
    rw [if_neg h.2, if_neg h1, hkn]
    simp only
    refine ⟨((p.2.1, p.2.2.2.1), p.2.2.2.2.2), by omega, ?_, ?_⟩
    · rw [Nat.add_sub_cancel]
      unfold exL
      rw [List.getElem?_map, g2]
      rfl
    · rw [Nat.add_sub_cancel]
      unfold exL
      rw [List.map_set]
      congr 1
      unfold exE cut
      rw [hpi]
      split <;> simp
end Go.Proofs.Ytkfdkjjocdbolaa
