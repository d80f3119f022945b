/-
  No cell of these rows narrows 'for every input' (looked for: loops, veiled, ifaces, maps, wideKeys, modest, calm, conditions, laid).
  DERIVED. THE GIVEN ROWS OF THIS SEAT. 7 by the template 'for every input the law returns true; each argument reads behind the call as it read before'; 0 by the template 'total and deterministic' (their statements: YtgniebjigphcgaaGreatTotals.lean).
  GIVEN WITH THE SEED: the statements are not yours to turn. If you find one false, say at which input.
  Laid BY PROGRAM, IN A SANDBOX (cutbox-rows.mjs): the forced cells as the released guide's own fill.sh prints them over the translation 3aa971a66d250d3c… (all of the seat's roots in one cut). By AI agents, Wed Nov 11 2026. No macro, syntax, notation, axiom, sorry.
-/
import Derived.Test.YtgniebjigphcgaaGreatChecked
import GoSem.Claim
import GoSem.ClaimJoined
import GoSem.ClaimMapViews
import Derived.JoinedTies
import Derived.KernelRfl
namespace Go.Proofs.YtgniebjigphcgaaGreat
/- THE CELL 'sum', in the pinned program and in every row, IS THE sha256 OF THE DUMP (.gsa) THAT YtgniebjigphcgaaGreatProg.lean LOADS. Nothing in Lean hashes anything: it is a label: what it is worth is what the hold of that sum in a sandbox is worth. -/
noncomputable def Tryz.pinned : Pinned := { name := "ytgniebjigphcgaagreat", sum := "3aa971a66d250d3cab543d870e994f5bfe835f382c6b64c49aef96243bcbf75d", checked := Tryz.checked }
namespace Rows
def none {H : Type} : Left H := { results := [], args := [] }

/-- 'rescindlaw11.PackSpans': WHATEVER THE INPUT: true; the input reads as it did. -/
def packSpansSpec : ChangeSpec := { name := "packSpans", fn := fun _ => fun
  | [d] => { results := [.lit (.bool true)], args := [d] }
  | _ => none }
def packSpansRow : OpenClaim := { program := "ytgniebjigphcgaagreat", sum := "3aa971a66d250d3cab543d870e994f5bfe835f382c6b64c49aef96243bcbf75d", func := "rescind/rescindlaw11.PackSpans", spec := "packSpans", unfollowed := true, recurses := true, apart := false }
def PackSpansSaid : Prop := packSpansRow.holds Tryz.pinned (OpenSpec.ofChange packSpansSpec)

/-- ITS FALSE NEIGHBOUR: 'it returns false'. Refute it at one input. -/
def packSpansWrong : ChangeSpec := { name := "packSpans", fn := fun _ => fun
  | [d] => { results := [.lit (.bool false)], args := [d] }
  | _ => none }
def PackSpansWrongFalsely : Prop := packSpansRow.holds Tryz.pinned (OpenSpec.ofChange packSpansWrong)

/-- 'rescindlaw11.PackPieces': WHATEVER THE INPUT: true; the input reads as it did. -/
def packPiecesSpec : ChangeSpec := { name := "packPieces", fn := fun _ => fun
  | [d] => { results := [.lit (.bool true)], args := [d] }
  | _ => none }
def packPiecesRow : OpenClaim := { program := "ytgniebjigphcgaagreat", sum := "3aa971a66d250d3cab543d870e994f5bfe835f382c6b64c49aef96243bcbf75d", func := "rescind/rescindlaw11.PackPieces", spec := "packPieces", unfollowed := true, recurses := true, apart := false }
def PackPiecesSaid : Prop := packPiecesRow.holds Tryz.pinned (OpenSpec.ofChange packPiecesSpec)

/-- ITS FALSE NEIGHBOUR: 'it returns false'. Refute it at one input. -/
def packPiecesWrong : ChangeSpec := { name := "packPieces", fn := fun _ => fun
  | [d] => { results := [.lit (.bool false)], args := [d] }
  | _ => none }
def PackPiecesWrongFalsely : Prop := packPiecesRow.holds Tryz.pinned (OpenSpec.ofChange packPiecesWrong)

/-- 'rescindlaw11.PackEdges': WHATEVER THE INPUT: true; the input reads as it did. -/
def packEdgesSpec : ChangeSpec := { name := "packEdges", fn := fun _ => fun
  | [d] => { results := [.lit (.bool true)], args := [d] }
  | _ => none }
def packEdgesRow : OpenClaim := { program := "ytgniebjigphcgaagreat", sum := "3aa971a66d250d3cab543d870e994f5bfe835f382c6b64c49aef96243bcbf75d", func := "rescind/rescindlaw11.PackEdges", spec := "packEdges", unfollowed := true, recurses := true, apart := false }
def PackEdgesSaid : Prop := packEdgesRow.holds Tryz.pinned (OpenSpec.ofChange packEdgesSpec)

/-- ITS FALSE NEIGHBOUR: 'it returns false'. Refute it at one input. -/
def packEdgesWrong : ChangeSpec := { name := "packEdges", fn := fun _ => fun
  | [d] => { results := [.lit (.bool false)], args := [d] }
  | _ => none }
def PackEdgesWrongFalsely : Prop := packEdgesRow.holds Tryz.pinned (OpenSpec.ofChange packEdgesWrong)

/-- 'rescindlaw11.PackOnce': WHATEVER THE INPUT: true; the input reads as it did. -/
def packOnceSpec : ChangeSpec := { name := "packOnce", fn := fun _ => fun
  | [d] => { results := [.lit (.bool true)], args := [d] }
  | _ => none }
def packOnceRow : OpenClaim := { program := "ytgniebjigphcgaagreat", sum := "3aa971a66d250d3cab543d870e994f5bfe835f382c6b64c49aef96243bcbf75d", func := "rescind/rescindlaw11.PackOnce", spec := "packOnce", unfollowed := true, recurses := true, apart := false }
def PackOnceSaid : Prop := packOnceRow.holds Tryz.pinned (OpenSpec.ofChange packOnceSpec)

/-- ITS FALSE NEIGHBOUR: 'it returns false'. Refute it at one input. -/
def packOnceWrong : ChangeSpec := { name := "packOnce", fn := fun _ => fun
  | [d] => { results := [.lit (.bool false)], args := [d] }
  | _ => none }
def PackOnceWrongFalsely : Prop := packOnceRow.holds Tryz.pinned (OpenSpec.ofChange packOnceWrong)

/-- 'rescindlaw11.PackTicks': WHATEVER THE INPUT: true; the input reads as it did. -/
def packTicksSpec : ChangeSpec := { name := "packTicks", fn := fun _ => fun
  | [d1, d2] => { results := [.lit (.bool true)], args := [d1, d2] }
  | _ => none }
def packTicksRow : OpenClaim := { program := "ytgniebjigphcgaagreat", sum := "3aa971a66d250d3cab543d870e994f5bfe835f382c6b64c49aef96243bcbf75d", func := "rescind/rescindlaw11.PackTicks", spec := "packTicks", unfollowed := true, recurses := true, apart := false }
def PackTicksSaid : Prop := packTicksRow.holds Tryz.pinned (OpenSpec.ofChange packTicksSpec)

/-- ITS FALSE NEIGHBOUR: 'it returns false'. Refute it at one input. -/
def packTicksWrong : ChangeSpec := { name := "packTicks", fn := fun _ => fun
  | [d1, d2] => { results := [.lit (.bool false)], args := [d1, d2] }
  | _ => none }
def PackTicksWrongFalsely : Prop := packTicksRow.holds Tryz.pinned (OpenSpec.ofChange packTicksWrong)

/-- 'rescindlaw11.PackCuts': WHATEVER THE INPUT: true; the input reads as it did. -/
def packCutsSpec : ChangeSpec := { name := "packCuts", fn := fun _ => fun
  | [d1, d2] => { results := [.lit (.bool true)], args := [d1, d2] }
  | _ => none }
def packCutsRow : OpenClaim := { program := "ytgniebjigphcgaagreat", sum := "3aa971a66d250d3cab543d870e994f5bfe835f382c6b64c49aef96243bcbf75d", func := "rescind/rescindlaw11.PackCuts", spec := "packCuts", unfollowed := true, recurses := true, apart := false }
def PackCutsSaid : Prop := packCutsRow.holds Tryz.pinned (OpenSpec.ofChange packCutsSpec)

/-- ITS FALSE NEIGHBOUR: 'it returns false'. Refute it at one input. -/
def packCutsWrong : ChangeSpec := { name := "packCuts", fn := fun _ => fun
  | [d1, d2] => { results := [.lit (.bool false)], args := [d1, d2] }
  | _ => none }
def PackCutsWrongFalsely : Prop := packCutsRow.holds Tryz.pinned (OpenSpec.ofChange packCutsWrong)

/-- 'rescindlaw11.PackSides': WHATEVER THE INPUT: true; the input reads as it did. -/
def packSidesSpec : ChangeSpec := { name := "packSides", fn := fun _ => fun
  | [d1, d2] => { results := [.lit (.bool true)], args := [d1, d2] }
  | _ => none }
def packSidesRow : OpenClaim := { program := "ytgniebjigphcgaagreat", sum := "3aa971a66d250d3cab543d870e994f5bfe835f382c6b64c49aef96243bcbf75d", func := "rescind/rescindlaw11.PackSides", spec := "packSides", unfollowed := true, recurses := true, apart := false }
def PackSidesSaid : Prop := packSidesRow.holds Tryz.pinned (OpenSpec.ofChange packSidesSpec)

/-- ITS FALSE NEIGHBOUR: 'it returns false'. Refute it at one input. -/
def packSidesWrong : ChangeSpec := { name := "packSides", fn := fun _ => fun
  | [d1, d2] => { results := [.lit (.bool false)], args := [d1, d2] }
  | _ => none }
def PackSidesWrongFalsely : Prop := packSidesRow.holds Tryz.pinned (OpenSpec.ofChange packSidesWrong)

/- THE SECOND FORM. 'bulk': how many values and letters a reading holds, each counted each time it is reached (what is shared counts as often as it is met; a slice's spare places count too). A statement '..UptoSaid' is the law's where the arguments, and the package variables that the reading takes, are together of bulk at most 1048576: NARROWER than '..Said'. Prove '..Said' where nothing that the law and all that it calls make is longer than what came in: it says more and counts as full. Else prove '..UptoSaid'. A law counts once. -/
mutual
def uptoBulk {H : Type} : DataW H → Nat
  | .lit (.string bytes) => bytes.length + 1
  | .lit _ => 1
  | .nil => 1
  | .ptr d => uptoBulk d + 1
  | .slice elems spare => uptoBulkAll elems + uptoBulkAll spare + 1
  | .agg parts => uptoBulkAll parts + 1
  | .iface _ d => uptoBulk d + 1
  | .map entries => uptoBulkEntries entries + 1
  | .held _ => 1
def uptoBulkAll {H : Type} : List (DataW H) → Nat
  | [] => 0
  | d :: r => uptoBulk d + uptoBulkAll r
def uptoBulkEntries {H : Type} : List (Lit × DataW H) → Nat
  | [] => 0
  | x :: r => uptoBulkEntry x + uptoBulkEntries r
def uptoBulkEntry {H : Type} : Lit × DataW H → Nat
  | (.string bytes, d) => bytes.length + uptoBulk d + 1
  | (_, d) => uptoBulk d + 1
 end
def uptoSmall : (H : Type) → List (DataW H) → Bool := fun _ ds => decide (uptoBulkAll ds ≤ 1048576)
def OpenSpec.upto (s : _root_.Go.ChangeSpec) : _root_.Go.OpenSpec := { _root_.Go.OpenSpec.ofChange s with cond := some uptoSmall }

/-- 'rescindlaw11.PackSpans', WHERE WHAT IT READS IS OF BULK AT MOST 1048576: true; the input reads as it did. -/
def packSpansUptoRow : OpenClaim := { program := "ytgniebjigphcgaagreat", sum := "3aa971a66d250d3cab543d870e994f5bfe835f382c6b64c49aef96243bcbf75d", func := "rescind/rescindlaw11.PackSpans", spec := "packSpans", unfollowed := true, recurses := true, apart := false, narrowed := true }
def PackSpansUptoSaid : Prop := packSpansUptoRow.holds Tryz.pinned (OpenSpec.upto packSpansSpec)

/-- 'rescindlaw11.PackPieces', WHERE WHAT IT READS IS OF BULK AT MOST 1048576: true; the input reads as it did. -/
def packPiecesUptoRow : OpenClaim := { program := "ytgniebjigphcgaagreat", sum := "3aa971a66d250d3cab543d870e994f5bfe835f382c6b64c49aef96243bcbf75d", func := "rescind/rescindlaw11.PackPieces", spec := "packPieces", unfollowed := true, recurses := true, apart := false, narrowed := true }
def PackPiecesUptoSaid : Prop := packPiecesUptoRow.holds Tryz.pinned (OpenSpec.upto packPiecesSpec)

/-- 'rescindlaw11.PackEdges', WHERE WHAT IT READS IS OF BULK AT MOST 1048576: true; the input reads as it did. -/
def packEdgesUptoRow : OpenClaim := { program := "ytgniebjigphcgaagreat", sum := "3aa971a66d250d3cab543d870e994f5bfe835f382c6b64c49aef96243bcbf75d", func := "rescind/rescindlaw11.PackEdges", spec := "packEdges", unfollowed := true, recurses := true, apart := false, narrowed := true }
def PackEdgesUptoSaid : Prop := packEdgesUptoRow.holds Tryz.pinned (OpenSpec.upto packEdgesSpec)

/-- 'rescindlaw11.PackOnce', WHERE WHAT IT READS IS OF BULK AT MOST 1048576: true; the input reads as it did. -/
def packOnceUptoRow : OpenClaim := { program := "ytgniebjigphcgaagreat", sum := "3aa971a66d250d3cab543d870e994f5bfe835f382c6b64c49aef96243bcbf75d", func := "rescind/rescindlaw11.PackOnce", spec := "packOnce", unfollowed := true, recurses := true, apart := false, narrowed := true }
def PackOnceUptoSaid : Prop := packOnceUptoRow.holds Tryz.pinned (OpenSpec.upto packOnceSpec)

/-- 'rescindlaw11.PackTicks', WHERE WHAT IT READS IS OF BULK AT MOST 1048576: true; the input reads as it did. -/
def packTicksUptoRow : OpenClaim := { program := "ytgniebjigphcgaagreat", sum := "3aa971a66d250d3cab543d870e994f5bfe835f382c6b64c49aef96243bcbf75d", func := "rescind/rescindlaw11.PackTicks", spec := "packTicks", unfollowed := true, recurses := true, apart := false, narrowed := true }
def PackTicksUptoSaid : Prop := packTicksUptoRow.holds Tryz.pinned (OpenSpec.upto packTicksSpec)

/-- 'rescindlaw11.PackCuts', WHERE WHAT IT READS IS OF BULK AT MOST 1048576: true; the input reads as it did. -/
def packCutsUptoRow : OpenClaim := { program := "ytgniebjigphcgaagreat", sum := "3aa971a66d250d3cab543d870e994f5bfe835f382c6b64c49aef96243bcbf75d", func := "rescind/rescindlaw11.PackCuts", spec := "packCuts", unfollowed := true, recurses := true, apart := false, narrowed := true }
def PackCutsUptoSaid : Prop := packCutsUptoRow.holds Tryz.pinned (OpenSpec.upto packCutsSpec)

/-- 'rescindlaw11.PackSides', WHERE WHAT IT READS IS OF BULK AT MOST 1048576: true; the input reads as it did. -/
def packSidesUptoRow : OpenClaim := { program := "ytgniebjigphcgaagreat", sum := "3aa971a66d250d3cab543d870e994f5bfe835f382c6b64c49aef96243bcbf75d", func := "rescind/rescindlaw11.PackSides", spec := "packSides", unfollowed := true, recurses := true, apart := false, narrowed := true }
def PackSidesUptoSaid : Prop := packSidesUptoRow.holds Tryz.pinned (OpenSpec.upto packSidesSpec)

end Rows
end Go.Proofs.YtgniebjigphcgaaGreat
