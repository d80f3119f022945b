/-
  A helper of ours: no claim of its own. Layer 7 (schema): what is a schema, by the document; which rows fit, on both sides.
-/
import Derived.Test.YtopgapbipmblbaaSchE
set_option linter.unusedVariables false
set_option linter.unusedSimpArgs false
namespace Go.Proofs.Ytopgapbipmblbaa
open Go.RowKit
attribute [local go_sem] GW.cell GW.frozen In.eq_true In.le_true In.ne In.ne' In.ne_add In.ne_add' In.lt_add Upto.le_true Upto.le_add Upto.lt_add
end Go.Proofs.Ytopgapbipmblbaa
