/-
  A helper of ours: no claim of its own. Layer 9 (step): the document's side: jumps put together.
-/
import Derived.Test.YtjigchaahbbkpacStepX
import Derived.Test.YtjigchaahbbkpacStepV
set_option linter.unusedVariables false
set_option linter.unusedSimpArgs false
namespace Go.Proofs.Ytjigchaahbbkpac
open Go.RowKit
attribute [local go_sem] GW.cell GW.frozen In.eq_true In.le_true In.ne In.ne' In.ne_add In.ne_add' In.lt_add Upto.le_true Upto.le_add Upto.lt_add
theorem inF_next {l : List Jp} {k : Nat} {x : Jp} (hx : l[k]? = some x) : inF (l.take (k + 1)) = if x.1 = 1125899906842624 then inF (l.take k) else inF (l.take k) ++ [x] := by
  unfold inF
  rw [take_snoc hx, List.filter_append]
  by_cases h : x.1 = 1125899906842624
  · rw [if_pos h]; simp [h]
  · rw [if_neg h]; simp [h]
theorem inF_len (l : List Jp) : (inF l).length ≤ l.length := List.length_filter_le _ _
theorem any_next {l : List Jp} {k : Nat} {x : Jp} {p : Jp → Bool} (h : (l.take k).any p = false) (hx : l[k]? = some x) (hp : p x = false) : (l.take (k + 1)).any p = false := by
  rw [take_snoc hx, List.any_append, h]; simp [hp]
theorem any_yes {l : List Jp} {k : Nat} {x : Jp} {p : Jp → Bool} (hx : l[k]? = some x) (hp : p x = true) : l.any p = true := List.any_eq_true.2 ⟨x, List.mem_of_getElem? hx, hp⟩
end Go.Proofs.Ytjigchaahbbkpac
