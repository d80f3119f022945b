/-
  A helper of ours: no claim of its own. Layer 25 (lean) on whole numbers: quarter turns, what a put does.
-/
import Derived.WalkKit
set_option linter.unusedVariables false
namespace Go.Proofs.Ytnneicdphlidhaa
/-- The turn of a number, to the east and to the north. -/
def tE (v : Int) : Int := if v % 4 = 0 then 1 else if v % 4 = 2 then -1 else 0
def tN (v : Int) : Int := if v % 4 = 1 then 1 else if v % 4 = 3 then -1 else 0
theorem turn_cases (v : Int) : (v % 4 = 0 ∧ tE v = 1 ∧ tN v = 0) ∨ (v % 4 = 1 ∧ tE v = 0 ∧ tN v = 1) ∨ (v % 4 = 2 ∧ tE v = -1 ∧ tN v = 0) ∨ (v % 4 = 3 ∧ tE v = 0 ∧ tN v = -1) := by
  unfold tE tN
  have h : v % 4 = 0 ∨ v % 4 = 1 ∨ v % 4 = 2 ∨ v % 4 = 3 := by omega
  rcases h with h | h | h | h <;> rw [h] <;> simp
theorem turn_add (v q : Int) : tE (v + q) = tE v * tE q - tN v * tN q ∧ tN (v + q) = tE v * tN q + tN v * tE q := by
  have e : (v + q) % 4 = (v % 4 + q % 4) % 4 := by omega
  rcases turn_cases v with ⟨h, a, b⟩ | ⟨h, a, b⟩ | ⟨h, a, b⟩ | ⟨h, a, b⟩ <;> rcases turn_cases q with ⟨k, c, d⟩ | ⟨k, c, d⟩ | ⟨k, c, d⟩ | ⟨k, c, d⟩ <;> rw [a, b, c, d] <;> unfold tE tN <;> rw [e, h, k] <;> decide
/-- Is it too far? -/
def farL (x y : Int) : Bool := decide (1125899906842624 < x) || decide (x < -1125899906842624) || decide (1125899906842624 < y) || decide (y < -1125899906842624)
theorem far_no {x y : Int} : farL x y = false ↔ (-1125899906842624 ≤ x ∧ x ≤ 1125899906842624 ∧ -1125899906842624 ≤ y ∧ y ≤ 1125899906842624) := by
  unfold farL
  simp only [Bool.or_eq_false_iff, decide_eq_false_iff_not]
  omega
theorem far_yes {x y : Int} : farL x y = true ↔ ¬ (-1125899906842624 ≤ x ∧ x ≤ 1125899906842624 ∧ -1125899906842624 ≤ y ∧ y ≤ 1125899906842624) := by
  rw [← far_no]; cases farL x y <;> simp
def Near (x y : Int) : Prop := -1125899906842624 ≤ x ∧ x ≤ 1125899906842624 ∧ -1125899906842624 ≤ y ∧ y ≤ 1125899906842624
def okN (n : Int) : Prop := -1048576 ≤ n ∧ n ≤ 1048576
instance (n : Int) : Decidable (okN n) := inferInstanceAs (Decidable (_ ∧ _))
/-- A put: its error, and the parts behind it. -/
def lpE (v n x y : Int) : Int := if okN n then (if farL (x + n * tE v) (y + n * tN v) then 10 else 0) else 2
def lpX (v n x y : Int) : Int := if okN n ∧ farL (x + n * tE v) (y + n * tN v) = false then x + n * tE v else x
def lpY (v n x y : Int) : Int := if okN n ∧ farL (x + n * tE v) (y + n * tN v) = false then y + n * tN v else y
end Go.Proofs.Ytnneicdphlidhaa
