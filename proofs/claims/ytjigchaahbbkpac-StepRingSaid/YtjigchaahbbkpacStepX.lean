/-
  A helper of ours: no claim of its own. Layer 9 (step): the document's side: jumps put together, two at once, parts.
-/
import Derived.Test.YtjigchaahbbkpacStepR
import Derived.Test.YtjigchaahbbkpacStepD
set_option linter.unusedVariables false
set_option linter.unusedSimpArgs false
namespace Go.Proofs.Ytjigchaahbbkpac
open Go.RowKit
attribute [local go_sem] GW.cell GW.frozen In.eq_true In.le_true In.ne In.ne' In.ne_add In.ne_add' In.lt_add Upto.le_true Upto.le_add Upto.lt_add
theorem map_next {ps : List Int} {k : Nat} {p : Int} (vf : Int → Int) (hp : ps[k]? = some p) : (ps.take (k + 1)).map vf = (ps.take k).map vf ++ [vf p] := by
  rw [take_snoc hp, List.map_append]; rfl
theorem mayJ_4096 {l : List Jp} (h : mayJ l = true) : l.length ≤ 4096 := by have := mayJ_len h; omega
theorem jv_60 {l : List Jp} (hb : ∀ j ∈ l, -1048576 ≤ j.2 ∧ j.2 ≤ 1048576) (hn : l.length ≤ 4096) (t : Int) : -4294967296 ≤ jv l t ∧ jv l t ≤ 4294967296 := by
  have := jv_small hb hn l.length t
  rwa [List.take_length] at this
end Go.Proofs.Ytjigchaahbbkpac
