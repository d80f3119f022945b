/-
  No cell of these rows narrows 'for every input' (looked for: loops, veiled, ifaces, maps, wideKeys, modest, calm, conditions, laid).
  DERIVED. THE GIVEN ROWS OF THIS SEAT. 3 by the template 'for every input the law returns true; each argument reads behind the call as it read before'; 0 by the template 'total and deterministic' (their statements: YtajelkkiijdegaaGreatTotals.lean).
  GIVEN WITH THE SEED: the statements are not yours to turn. If you find one false, say at which input.
  Laid BY PROGRAM, IN A SANDBOX (cutbox-rows.mjs): the forced cells as the released guide's own fill.sh prints them over the translation 63104716fd08ee84… (all of the seat's roots in one cut). By AI agents, Wed Nov 11 2026. No macro, syntax, notation, axiom, sorry.
-/
import Derived.Test.YtajelkkiijdegaaGreatChecked
import GoSem.Claim
import GoSem.ClaimJoined
import GoSem.ClaimMapViews
import Derived.JoinedTies
import Derived.KernelRfl
namespace Go.Proofs.YtajelkkiijdegaaGreat
/- THE CELL 'sum', in the pinned program and in every row, IS THE sha256 OF THE DUMP (.gsa) THAT YtajelkkiijdegaaGreatProg.lean LOADS. Nothing in Lean hashes anything: it is a label: what it is worth is what the hold of that sum in a sandbox is worth. -/
noncomputable def Tryz.pinned : Pinned := { name := "ytajelkkiijdegaagreat", sum := "63104716fd08ee8412ac2d1cbdbd96e47bcdf32c3d995cf4ce7f308b2ac5d53c", checked := Tryz.checked }
namespace Rows
def none {H : Type} : Left H := { results := [], args := [] }

/-- 'rescindlaw14.PastTakes': WHATEVER THE INPUT: true; the input reads as it did. -/
def pastTakesSpec : ChangeSpec := { name := "pastTakes", fn := fun _ => fun
  | [d1, d2] => { results := [.lit (.bool true)], args := [d1, d2] }
  | _ => none }
def pastTakesRow : OpenClaim := { program := "ytajelkkiijdegaagreat", sum := "63104716fd08ee8412ac2d1cbdbd96e47bcdf32c3d995cf4ce7f308b2ac5d53c", func := "rescind/rescindlaw14.PastTakes", spec := "pastTakes", inPlace := ["slices.overlaps[*rescind/past.event]"], unfollowed := true, recurses := true, apart := false }
def PastTakesSaid : Prop := pastTakesRow.holds Tryz.pinned (OpenSpec.ofChange pastTakesSpec)

/-- ITS FALSE NEIGHBOUR: 'it returns false'. Refute it at one input. -/
def pastTakesWrong : ChangeSpec := { name := "pastTakes", fn := fun _ => fun
  | [d1, d2] => { results := [.lit (.bool false)], args := [d1, d2] }
  | _ => none }
def PastTakesWrongFalsely : Prop := pastTakesRow.holds Tryz.pinned (OpenSpec.ofChange pastTakesWrong)

/-- 'rescindlaw14.PastFinds': WHATEVER THE INPUT: true; the input reads as it did. -/
def pastFindsSpec : ChangeSpec := { name := "pastFinds", fn := fun _ => fun
  | [d1, d2] => { results := [.lit (.bool true)], args := [d1, d2] }
  | _ => none }
def pastFindsRow : OpenClaim := { program := "ytajelkkiijdegaagreat", sum := "63104716fd08ee8412ac2d1cbdbd96e47bcdf32c3d995cf4ce7f308b2ac5d53c", func := "rescind/rescindlaw14.PastFinds", spec := "pastFinds", inPlace := ["slices.overlaps[*rescind/past.event]"], unfollowed := true, recurses := true, apart := false }
def PastFindsSaid : Prop := pastFindsRow.holds Tryz.pinned (OpenSpec.ofChange pastFindsSpec)

/-- ITS FALSE NEIGHBOUR: 'it returns false'. Refute it at one input. -/
def pastFindsWrong : ChangeSpec := { name := "pastFinds", fn := fun _ => fun
  | [d1, d2] => { results := [.lit (.bool false)], args := [d1, d2] }
  | _ => none }
def PastFindsWrongFalsely : Prop := pastFindsRow.holds Tryz.pinned (OpenSpec.ofChange pastFindsWrong)

/-- 'rescindtop.TopTables': WHATEVER THE INPUT: true; the input reads as it did. -/
def topTablesSpec : ChangeSpec := { name := "topTables", fn := fun _ => fun
  | [d] => { results := [.lit (.bool true)], args := [d] }
  | _ => none }
def topTablesRow : OpenClaim := { program := "ytajelkkiijdegaagreat", sum := "63104716fd08ee8412ac2d1cbdbd96e47bcdf32c3d995cf4ce7f308b2ac5d53c", func := "rescind/rescindtop.TopTables", spec := "topTables", inPlace := ["slices.overlaps[*rescind/past.event]"], unfollowed := true, recurses := true, apart := false }
def TopTablesSaid : Prop := topTablesRow.holds Tryz.pinned (OpenSpec.ofChange topTablesSpec)

/-- ITS FALSE NEIGHBOUR: 'it returns false'. Refute it at one input. -/
def topTablesWrong : ChangeSpec := { name := "topTables", fn := fun _ => fun
  | [d] => { results := [.lit (.bool false)], args := [d] }
  | _ => none }
def TopTablesWrongFalsely : Prop := topTablesRow.holds Tryz.pinned (OpenSpec.ofChange topTablesWrong)

/- THE SECOND FORM. 'bulk': how many values and letters a reading holds, each counted each time it is reached (what is shared counts as often as it is met; a slice's spare places count too). A statement '..UptoSaid' is the law's where the arguments, and the package variables that the reading takes, are together of bulk at most 1048576: NARROWER than '..Said'. Prove '..Said' where nothing that the law and all that it calls make is longer than what came in: it says more and counts as full. Else prove '..UptoSaid'. A law counts once. -/
mutual
def uptoBulk {H : Type} : DataW H → Nat
  | .lit (.string bytes) => bytes.length + 1
  | .lit _ => 1
  | .nil => 1
  | .ptr d => uptoBulk d + 1
  | .slice elems spare => uptoBulkAll elems + uptoBulkAll spare + 1
  | .agg parts => uptoBulkAll parts + 1
  | .iface _ d => uptoBulk d + 1
  | .map entries => uptoBulkEntries entries + 1
  | .held _ => 1
def uptoBulkAll {H : Type} : List (DataW H) → Nat
  | [] => 0
  | d :: r => uptoBulk d + uptoBulkAll r
def uptoBulkEntries {H : Type} : List (Lit × DataW H) → Nat
  | [] => 0
  | x :: r => uptoBulkEntry x + uptoBulkEntries r
def uptoBulkEntry {H : Type} : Lit × DataW H → Nat
  | (.string bytes, d) => bytes.length + uptoBulk d + 1
  | (_, d) => uptoBulk d + 1
 end
def uptoSmall : (H : Type) → List (DataW H) → Bool := fun _ ds => decide (uptoBulkAll ds ≤ 1048576)
def OpenSpec.upto (s : _root_.Go.ChangeSpec) : _root_.Go.OpenSpec := { _root_.Go.OpenSpec.ofChange s with cond := some uptoSmall }

/-- 'rescindlaw14.PastTakes', WHERE WHAT IT READS IS OF BULK AT MOST 1048576: true; the input reads as it did. -/
def pastTakesUptoRow : OpenClaim := { program := "ytajelkkiijdegaagreat", sum := "63104716fd08ee8412ac2d1cbdbd96e47bcdf32c3d995cf4ce7f308b2ac5d53c", func := "rescind/rescindlaw14.PastTakes", spec := "pastTakes", inPlace := ["slices.overlaps[*rescind/past.event]"], unfollowed := true, recurses := true, apart := false, narrowed := true }
def PastTakesUptoSaid : Prop := pastTakesUptoRow.holds Tryz.pinned (OpenSpec.upto pastTakesSpec)

/-- 'rescindlaw14.PastFinds', WHERE WHAT IT READS IS OF BULK AT MOST 1048576: true; the input reads as it did. -/
def pastFindsUptoRow : OpenClaim := { program := "ytajelkkiijdegaagreat", sum := "63104716fd08ee8412ac2d1cbdbd96e47bcdf32c3d995cf4ce7f308b2ac5d53c", func := "rescind/rescindlaw14.PastFinds", spec := "pastFinds", inPlace := ["slices.overlaps[*rescind/past.event]"], unfollowed := true, recurses := true, apart := false, narrowed := true }
def PastFindsUptoSaid : Prop := pastFindsUptoRow.holds Tryz.pinned (OpenSpec.upto pastFindsSpec)

/-- 'rescindtop.TopTables', WHERE WHAT IT READS IS OF BULK AT MOST 1048576: true; the input reads as it did. -/
def topTablesUptoRow : OpenClaim := { program := "ytajelkkiijdegaagreat", sum := "63104716fd08ee8412ac2d1cbdbd96e47bcdf32c3d995cf4ce7f308b2ac5d53c", func := "rescind/rescindtop.TopTables", spec := "topTables", inPlace := ["slices.overlaps[*rescind/past.event]"], unfollowed := true, recurses := true, apart := false, narrowed := true }
def TopTablesUptoSaid : Prop := topTablesUptoRow.holds Tryz.pinned (OpenSpec.upto topTablesSpec)

end Rows
end Go.Proofs.YtajelkkiijdegaaGreat
