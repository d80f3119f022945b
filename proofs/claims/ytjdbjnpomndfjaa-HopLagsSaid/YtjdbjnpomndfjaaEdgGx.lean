/-
  A helper of ours: no claim of its own. Layer 10 (edge): the rows that are told, each with its function, by the code: it ranges over a function itself, and hands copies over.
-/
import Derived.Test.YtjdbjnpomndfjaaEdgGr
import Derived.Test.YtjdbjnpomndfjaaEdgFx
import Derived.Test.YtjdbjnpomndfjaaRx
import Derived.Test.YtjdbjnpomndfjaaRowE
set_option linter.unusedVariables false
set_option linter.unusedSimpArgs false
namespace Go.Proofs.Ytjdbjnpomndfjaa
open Go.RowKit
attribute [local go_sem] GW.cell GW.frozen In.eq_true In.le_true In.ne In.ne' In.ne_add In.ne_add' In.lt_add Upto.le_true Upto.le_add Upto.lt_add Oper.semAt_some wide_depth wide_fn
end Go.Proofs.Ytjdbjnpomndfjaa
