/-
  A helper of ours: no claim of its own. Layer 2 (span): how mirrored and shifted spans stand.
-/
import Derived.Test.YtabdjpfijifhmabSpanE
set_option linter.unusedVariables false
set_option linter.unusedSimpArgs false
namespace Go.Proofs.Ytabdjpfijifhmab
open Go.RowKit
attribute [local go_sem] GW.cell GW.frozen In.eq_true In.le_true In.ne In.ne' In.ne_add In.ne_add' In.lt_add Upto.le_true Upto.le_add Upto.lt_add

/-- Where mirrored spans stand. -/
def mirrored (n : Int) : Int := if n = 1 then 13 else if n = 2 then 12 else if n = 3 then 11 else if n = 4 then 8 else if n = 6 then 10 else if n = 8 then 4 else if n = 10 then 6 else if n = 11 then 3 else if n = 12 then 2 else if n = 13 then 1 else n
theorem mirror_rel {a b c d s : Int} (h1 : mirrorF a b s = true) (h2 : mirrorF c d s = true) : (mayB a b && mayB c d) = true ∧ relV (s - b) (s - a) (s - d) (s - c) = mirrored (relV a b c d) := by
  simp only [mirrorF, Bool.and_eq_true, decide_eq_true_eq] at h1 h2
  have e1 := h1.1.1.1; have e2 := h2.1.1.1
  have e3 := h1.2; have e4 := h2.2
  have l1 := mayB_lt e1; have l2 := mayB_lt e2
  refine ⟨by rw [e1, e2]; rfl, ?_⟩
  have ea : cmpI (s - b) (s - d) = cmpI d b := by simp only [cmpI]; (repeat' split) <;> omega
  have eb : cmpI (s - a) (s - c) = cmpI c a := by simp only [cmpI]; (repeat' split) <;> omega
  simp only [relV, e1, e2, e3, e4, Bool.and_self, if_true, ea, eb]
  by_cases x1 : b < c
  · rw [if_neg (by omega), if_neg (by omega), if_neg (by omega), if_pos (by omega), if_pos x1]; rfl
  by_cases x2 : b = c
  · rw [if_neg (by omega), if_neg (by omega), if_pos (by omega), if_neg x1, if_pos x2]; rfl
  by_cases x3 : a = d
  · rw [if_neg (by omega), if_pos (by omega), if_neg x1, if_neg x2, if_pos x3]; rfl
  by_cases x4 : a > d
  · rw [if_pos (by omega), if_neg x1, if_neg x2, if_neg x3, if_pos x4]; rfl
  rw [if_neg (by omega), if_neg (by omega), if_neg (by omega), if_neg (by omega), if_neg x1, if_neg x2, if_neg x3, if_neg x4]
  simp only [cmpI]
  by_cases y1 : a < c <;> by_cases y2 : a > c <;> by_cases z1 : b < d <;> by_cases z2 : b > d
  all_goals first | (exfalso; omega) | skip
  all_goals simp only [y1, y2, z1, z2, if_true, if_false, show (c < a) = (a > c) from rfl, show (c > a) = (a < c) from rfl, show (d < b) = (b > d) from rfl, show (d > b) = (b < d) from rfl, mirrored]
  all_goals decide
theorem shift_rel {a b c d n : Int} (h1 : shiftF a b n = true) (h2 : shiftF c d n = true) : (mayB a b && mayB c d) = true ∧ relV (a + n) (b + n) (c + n) (d + n) = relV a b c d := by
  simp only [shiftF, Bool.and_eq_true, decide_eq_true_eq] at h1 h2
  have e1 := h1.1.1.1; have e2 := h2.1.1.1
  have e3 := h1.2; have e4 := h2.2
  refine ⟨by rw [e1, e2]; rfl, ?_⟩
  have ea : cmpI (a + n) (c + n) = cmpI a c := by simp only [cmpI]; (repeat' split) <;> omega
  have eb : cmpI (b + n) (d + n) = cmpI b d := by simp only [cmpI]; (repeat' split) <;> omega
  simp only [relV, e1, e2, e3, e4, Bool.and_self, if_true, ea, eb]
  (repeat' split) <;> omega
theorem meet_rel (a b c d : Int) : meetB a b c d = (decide (relV a b c d > 2) && decide (relV a b c d < 12)) := by
  unfold meetB relV
  cases h0 : mayB a b
  · simp
  cases h1 : mayB c d
  · simp
  have l := mayB_lt h0
  have m := mayB_lt h1
  simp only [Bool.and_self, if_true, Bool.true_and, cmpI]
  (repeat' split) <;> simp <;> omega
end Go.Proofs.Ytabdjpfijifhmab
