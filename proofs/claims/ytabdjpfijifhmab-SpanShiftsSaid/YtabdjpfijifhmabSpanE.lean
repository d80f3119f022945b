/-
  A helper of ours: no claim of its own. Layer 2 (span): shifting and mirroring back.
-/
import Derived.Test.YtabdjpfijifhmabSpanD
set_option linter.unusedVariables false
set_option linter.unusedSimpArgs false
namespace Go.Proofs.Ytabdjpfijifhmab
open Go.RowKit
attribute [local go_sem] GW.cell GW.frozen In.eq_true In.le_true In.ne In.ne' In.ne_add In.ne_add' In.lt_add Upto.le_true Upto.le_add Upto.lt_add

theorem shift_back {a b n : Int} (h : shiftF a b n = true) : shiftF (a + n) (b + n) (-n) = true ∧ shiftE (a + n) (b + n) (-n) = 0 ∧ a + n + -n = a ∧ b + n + -n = b := by
  simp only [shiftF, Bool.and_eq_true, decide_eq_true_eq] at h
  obtain ⟨⟨⟨h1, h2⟩, h3⟩, h4⟩ := h
  have e1 : a + n + -n = a := by omega
  have e2 : b + n + -n = b := by omega
  refine ⟨?_, ?_, e1, e2⟩
  · simp only [shiftF, h4, e1, e2, h1, Bool.and_true, Bool.true_and, Bool.and_eq_true, decide_eq_true_eq]; omega
  · simp only [shiftE, h4, if_true, e1, e2, mkE_yes h1]; rw [if_neg (by omega)]
theorem mirror_back {a b n : Int} (h : mirrorF a b n = true) : mirrorF (n - b) (n - a) n = true ∧ mirrorE (n - b) (n - a) n = 0 ∧ n - (n - a) = a ∧ n - (n - b) = b := by
  simp only [mirrorF, Bool.and_eq_true, decide_eq_true_eq] at h
  obtain ⟨⟨⟨h1, h2⟩, h3⟩, h4⟩ := h
  have e1 : n - (n - a) = a := by omega
  have e2 : n - (n - b) = b := by omega
  refine ⟨?_, ?_, e1, e2⟩
  · simp only [mirrorF, h4, e1, e2, h1, Bool.and_true, Bool.true_and, Bool.and_eq_true, decide_eq_true_eq]; omega
  · simp only [mirrorE, h4, if_true, e1, e2, mkE_yes h1]; rw [if_neg (by omega)]
theorem shift_err (a b n : Int) : (shiftF a b n = true ∧ shiftE a b n = 0) ∨ (shiftF a b n = false ∧ (shiftE a b n = 13 ∨ shiftE a b n = 14)) := by
  cases h : shiftF a b n
  · right; refine ⟨rfl, ?_⟩
    unfold shiftF at h; unfold shiftE
    cases h0 : mayB a b <;> simp only [h0, Bool.true_and, Bool.false_and] at h ⊢
    · right; simp
    · rw [if_pos trivial]
      split
      · exact .inl rfl
      · rename_i hr
        refine mkE_no ?_
        cases h1 : mayB (a + n) (b + n)
        · rfl
        · simp only [h1, Bool.and_true, Bool.and_eq_false_iff, decide_eq_false_iff_not] at h; omega
  · left; refine ⟨rfl, ?_⟩
    simp only [shiftF, Bool.and_eq_true, decide_eq_true_eq] at h
    simp only [shiftE, h.1.1.1, if_true, mkE_yes h.2]; rw [if_neg (by omega)]
theorem mirror_err (a b n : Int) : (mirrorF a b n = true ∧ mirrorE a b n = 0) ∨ (mirrorF a b n = false ∧ (mirrorE a b n = 13 ∨ mirrorE a b n = 14)) := by
  cases h : mirrorF a b n
  · right; refine ⟨rfl, ?_⟩
    unfold mirrorF at h; unfold mirrorE
    cases h0 : mayB a b <;> simp only [h0, Bool.true_and, Bool.false_and] at h ⊢
    · right; simp
    · rw [if_pos trivial]
      split
      · exact .inl rfl
      · rename_i hr
        refine mkE_no ?_
        cases h1 : mayB (n - b) (n - a)
        · rfl
        · simp only [h1, Bool.and_true, Bool.and_eq_false_iff, decide_eq_false_iff_not] at h; omega
  · left; refine ⟨rfl, ?_⟩
    simp only [mirrorF, Bool.and_eq_true, decide_eq_true_eq] at h
    simp only [mirrorE, h.1.1.1, if_true, mkE_yes h.2]; rw [if_neg (by omega)]
theorem shift_range {a b n : Int} (h : shiftF a b n = true) : -1125899906842624 ≤ n ∧ n ≤ 1125899906842624 := by
  simp only [shiftF, Bool.and_eq_true, decide_eq_true_eq] at h; omega
end Go.Proofs.Ytabdjpfijifhmab
