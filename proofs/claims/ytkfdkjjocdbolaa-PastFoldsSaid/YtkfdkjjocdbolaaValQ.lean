/-
  A helper of ours: no claim of its own. Layer 5 (value): values held against one another by Go's own ==.
-/
import Derived.Test.YtkfdkjjocdbolaaValA
set_option linter.unusedVariables false
set_option linter.unusedSimpArgs false
namespace Go.Proofs.Ytkfdkjjocdbolaa
open Go.RowKit
theorem eq_val (k n k' m : Int) (s t : ByteArray) (w : World) : (binOp .eql 54 (val k n s) (val k' m t)).run Try.prog w = .ok (.bool (k == k' && (n == m && s.toList == t.toList))) w := by
  by_cases h1 : k = k' <;> by_cases h2 : n = m <;> by_cases h3 : s.toList = t.toList <;> simp [go_sem, h1, h2, h3]
theorem neq_val (k n k' m : Int) (s t : ByteArray) (w : World) : (binOp .neq 54 (val k n s) (val k' m t)).run Try.prog w = .ok (.bool (!(k == k' && (n == m && s.toList == t.toList)))) w := by
  by_cases h1 : k = k' <;> by_cases h2 : n = m <;> by_cases h3 : s.toList = t.toList <;> simp [go_sem, h1, h2, h3]
theorem toList_iff {s t : ByteArray} : s.toList = t.toList ↔ s = t := by
  rw [Lib.toList_data, Lib.toList_data]
  exact ⟨text_eq, fun h => by rw [h]⟩
theorem eq_same (k n : Int) (s : ByteArray) (w : World) : (binOp .eql 54 (val k n s) (val k n s)).run Try.prog w = .ok (.bool true) w := by
  rw [eq_val]; simp
theorem neq_same (k n : Int) (s : ByteArray) (w : World) : (binOp .neq 54 (val k n s) (val k n s)).run Try.prog w = .ok (.bool false) w := by
  rw [neq_val]; simp
theorem eq_other {k n k' m : Int} {s t : ByteArray} (h : ¬ (k = k' ∧ n = m ∧ s = t)) (w : World) : (binOp .eql 54 (val k n s) (val k' m t)).run Try.prog w = .ok (.bool false) w := by
  rw [eq_val]
  congr 2
  rw [← Bool.not_eq_true]
  intro h'
  simp only [Bool.and_eq_true, beq_iff_eq, toList_iff] at h'
  exact h h'
end Go.Proofs.Ytkfdkjjocdbolaa
