/-
  A helper of ours: no claim of its own. Layer 6 (row): Compare, on both sides.
-/
import Derived.Test.YtkfdkjjocdbolaaRowC
set_option linter.unusedVariables false
set_option linter.unusedSimpArgs false
namespace Go.Proofs.Ytkfdkjjocdbolaa
open Go.RowKit
attribute [local go_sem] GW.cell GW.frozen In.eq_true In.le_true In.ne In.ne' In.ne_add In.ne_add' In.lt_add Upto.le_true Upto.le_add Upto.lt_add
abbrev bxR (v : Value) : Obj := .cells #[v] 26
section
variable {l m : List Vl} {v u : Value} {w : World}
end
end Go.Proofs.Ytkfdkjjocdbolaa
