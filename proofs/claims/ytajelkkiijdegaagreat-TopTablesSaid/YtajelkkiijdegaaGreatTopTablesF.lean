/-
  A helper of ours: no claim of its own. The closed facts of the row of TopTables, one by one.
-/
import Derived.Test.YtajelkkiijdegaaGreatRows
import Derived.Test.YtajelkkiijdegaaGreatChecked
import Derived.WalkKit
import Derived.ProofKit
import Derived.JoinedCond
set_option linter.unusedVariables false
set_option linter.unusedSimpArgs false
set_option linter.unusedSectionVars false
set_option maxHeartbeats 64000000
set_option maxRecDepth 100000
namespace Go.Proofs.YtajelkkiijdegaaGreat.Facts.topTables
open Go.ChangeShapes Go.WideShapes Go.ChangeAt Go.RowKit
theorem c1:(Rows.topTablesRow.inPlace == Tryz.prog.inPlace 5)=true:=by kernel_rfl
theorem c2:(Rows.topTablesRow.unfollowed == Tryz.prog.unfollowed 5)=true:=by kernel_rfl
theorem c3:(Rows.topTablesRow.recurses == Tryz.prog.recurses 5)=true:=by kernel_rfl
theorem c4:(Rows.topTablesRow.named == Tryz.prog.varsNamed 5)=true:=by kernel_rfl
theorem c5:laidOutB Tryz.prog=true:=by kernel_rfl
theorem c6:mapsRowed Tryz.prog=true:=by kernel_rfl
theorem closed:joinedFacts Tryz.prog 5 Tryz.f5 Rows.topTablesSpec Rows.topTablesRow=true:=by
 unfold joinedFacts
 rw[c1,c2,c3,c4,c5,c6]
 kernel_rfl
end Go.Proofs.YtajelkkiijdegaaGreat.Facts.topTables
