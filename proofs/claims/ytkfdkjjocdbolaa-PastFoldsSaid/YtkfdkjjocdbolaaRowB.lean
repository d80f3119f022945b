/-
  A helper of ours: no claim of its own. Layer 6 (row): how a row stands to another, on both sides.
-/
import Derived.Test.YtkfdkjjocdbolaaRowA
import Derived.Test.YtkfdkjjocdbolaaValC
import Derived.Test.YtkfdkjjocdbolaaValQ
set_option linter.unusedVariables false
set_option linter.unusedSimpArgs false
namespace Go.Proofs.Ytkfdkjjocdbolaa
open Go.RowKit
attribute [local go_sem] GW.cell GW.frozen In.eq_true In.le_true In.ne In.ne' In.ne_add In.ne_add' In.lt_add Upto.le_true Upto.le_add Upto.lt_add
theorem neq_other {k n k' m : Int} {s t : ByteArray} (h : ¬ ((k, n, s) = (k', m, t))) (w : World) : (binOp .neq 54 (val k n s) (val k' m t)).run Try.prog w = .ok (.bool true) w := by
  rw [neq_val]
  congr 2
  rw [Bool.not_eq_true', ← Bool.not_eq_true]
  intro h'
  simp only [Bool.and_eq_true, beq_iff_eq, toList_iff] at h'
  obtain ⟨rfl, rfl, rfl⟩ := h'
  exact h rfl
theorem cons_eq_dec {x y : Vl} (a b : List Vl) (h : x = y) : decide (x :: a = y :: b) = decide (a = b) := by
  subst h; simp
theorem cons_ne_dec {x y : Vl} (a b : List Vl) (h : ¬ x = y) : decide (x :: a = y :: b) = false := by
  rw [decide_eq_false_iff_not]; intro e; injection e with e1 _; exact h e1
section
variable {l m : List Vl} {v u : Value} {w : World}
end
end Go.Proofs.Ytkfdkjjocdbolaa
