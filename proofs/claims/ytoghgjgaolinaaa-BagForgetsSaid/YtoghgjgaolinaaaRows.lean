/-
  No cell of these rows narrows 'for every input' (looked for: loops, veiled, ifaces, maps, wideKeys, modest, calm, conditions, laid).
  DERIVED. THE GIVEN ROWS OF THIS SEAT. 3 by the template 'for every input the law returns true; each argument reads behind the call as it read before'; 0 by the template 'total and deterministic' (their statements: YtoghgjgaolinaaaTotals.lean).
  GIVEN WITH THE SEED: the statements are not yours to turn. If you find one false, say at which input.
  Laid BY PROGRAM, IN A SANDBOX (cutbox-rows.mjs): the forced cells as the released guide's own fill.sh prints them over the translation e83877d1745b7ddf… (all of the seat's roots in one cut). By AI agents, Wed Nov 11 2026. No macro, syntax, notation, axiom, sorry.
-/
import Derived.Test.YtoghgjgaolinaaaChecked
import GoSem.Claim
import GoSem.ClaimJoined
import GoSem.ClaimMapViews
import Derived.JoinedTies
import Derived.KernelRfl
namespace Go.Proofs.Ytoghgjgaolinaaa
/- THE CELL 'sum', in the pinned program and in every row, IS THE sha256 OF THE DUMP (.gsa) THAT YtoghgjgaolinaaaProg.lean LOADS. Nothing in Lean hashes anything: it is a label: what it is worth is what the hold of that sum in a sandbox is worth. -/
noncomputable def Try.pinned : Pinned := { name := "ytoghgjgaolinaaa", sum := "e83877d1745b7ddfedc74f39e5b9ea4be0a427a58cce63a34955850682dd20ad", checked := Try.checked }
namespace Rows
def none {H : Type} : Left H := { results := [], args := [] }

/-- 'rescindlaw12.BagForgets': WHATEVER THE INPUT: true; the input reads as it did. -/
def bagForgetsSpec : ChangeSpec := { name := "bagForgets", fn := fun _ => fun
  | [d1, d2, d3] => { results := [.lit (.bool true)], args := [d1, d2, d3] }
  | _ => none }
def bagForgetsRow : OpenClaim := { program := "ytoghgjgaolinaaa", sum := "e83877d1745b7ddfedc74f39e5b9ea4be0a427a58cce63a34955850682dd20ad", func := "rescind/rescindlaw12.BagForgets", spec := "bagForgets", unfollowed := true, recurses := true, apart := false }
def BagForgetsSaid : Prop := bagForgetsRow.holds Try.pinned (OpenSpec.ofChange bagForgetsSpec)

/-- ITS FALSE NEIGHBOUR: 'it returns false'. Refute it at one input. -/
def bagForgetsWrong : ChangeSpec := { name := "bagForgets", fn := fun _ => fun
  | [d1, d2, d3] => { results := [.lit (.bool false)], args := [d1, d2, d3] }
  | _ => none }
def BagForgetsWrongFalsely : Prop := bagForgetsRow.holds Try.pinned (OpenSpec.ofChange bagForgetsWrong)

/-- 'rescindlaw12.BagUndo': WHATEVER THE INPUT: true; the input reads as it did. -/
def bagUndoSpec : ChangeSpec := { name := "bagUndo", fn := fun _ => fun
  | [d1, d2] => { results := [.lit (.bool true)], args := [d1, d2] }
  | _ => none }
def bagUndoRow : OpenClaim := { program := "ytoghgjgaolinaaa", sum := "e83877d1745b7ddfedc74f39e5b9ea4be0a427a58cce63a34955850682dd20ad", func := "rescind/rescindlaw12.BagUndo", spec := "bagUndo", unfollowed := true, recurses := true, apart := false }
def BagUndoSaid : Prop := bagUndoRow.holds Try.pinned (OpenSpec.ofChange bagUndoSpec)

/-- ITS FALSE NEIGHBOUR: 'it returns false'. Refute it at one input. -/
def bagUndoWrong : ChangeSpec := { name := "bagUndo", fn := fun _ => fun
  | [d1, d2] => { results := [.lit (.bool false)], args := [d1, d2] }
  | _ => none }
def BagUndoWrongFalsely : Prop := bagUndoRow.holds Try.pinned (OpenSpec.ofChange bagUndoWrong)

/-- 'rescindlaw14.PastFolds': WHATEVER THE INPUT: true; the input reads as it did. -/
def pastFoldsSpec : ChangeSpec := { name := "pastFolds", fn := fun _ => fun
  | [d] => { results := [.lit (.bool true)], args := [d] }
  | _ => none }
def pastFoldsRow : OpenClaim := { program := "ytoghgjgaolinaaa", sum := "e83877d1745b7ddfedc74f39e5b9ea4be0a427a58cce63a34955850682dd20ad", func := "rescind/rescindlaw14.PastFolds", spec := "pastFolds", inPlace := ["slices.overlaps[*rescind/past.event]"], unfollowed := true, recurses := true, apart := false }
def PastFoldsSaid : Prop := pastFoldsRow.holds Try.pinned (OpenSpec.ofChange pastFoldsSpec)

/-- ITS FALSE NEIGHBOUR: 'it returns false'. Refute it at one input. -/
def pastFoldsWrong : ChangeSpec := { name := "pastFolds", fn := fun _ => fun
  | [d] => { results := [.lit (.bool false)], args := [d] }
  | _ => none }
def PastFoldsWrongFalsely : Prop := pastFoldsRow.holds Try.pinned (OpenSpec.ofChange pastFoldsWrong)

/- THE SECOND FORM. 'bulk': how many values and letters a reading holds, each counted each time it is reached (what is shared counts as often as it is met; a slice's spare places count too). A statement '..UptoSaid' is the law's where the arguments, and the package variables that the reading takes, are together of bulk at most 1048576: NARROWER than '..Said'. Prove '..Said' where nothing that the law and all that it calls make is longer than what came in: it says more and counts as full. Else prove '..UptoSaid'. A law counts once. -/
mutual
def uptoBulk {H : Type} : DataW H → Nat
  | .lit (.string bytes) => bytes.length + 1
  | .lit _ => 1
  | .nil => 1
  | .ptr d => uptoBulk d + 1
  | .slice elems spare => uptoBulkAll elems + uptoBulkAll spare + 1
  | .agg parts => uptoBulkAll parts + 1
  | .iface _ d => uptoBulk d + 1
  | .map entries => uptoBulkEntries entries + 1
  | .held _ => 1
def uptoBulkAll {H : Type} : List (DataW H) → Nat
  | [] => 0
  | d :: r => uptoBulk d + uptoBulkAll r
def uptoBulkEntries {H : Type} : List (Lit × DataW H) → Nat
  | [] => 0
  | x :: r => uptoBulkEntry x + uptoBulkEntries r
def uptoBulkEntry {H : Type} : Lit × DataW H → Nat
  | (.string bytes, d) => bytes.length + uptoBulk d + 1
  | (_, d) => uptoBulk d + 1
 end
def uptoSmall : (H : Type) → List (DataW H) → Bool := fun _ ds => decide (uptoBulkAll ds ≤ 1048576)
def OpenSpec.upto (s : _root_.Go.ChangeSpec) : _root_.Go.OpenSpec := { _root_.Go.OpenSpec.ofChange s with cond := some uptoSmall }

/-- 'rescindlaw12.BagForgets', WHERE WHAT IT READS IS OF BULK AT MOST 1048576: true; the input reads as it did. -/
def bagForgetsUptoRow : OpenClaim := { program := "ytoghgjgaolinaaa", sum := "e83877d1745b7ddfedc74f39e5b9ea4be0a427a58cce63a34955850682dd20ad", func := "rescind/rescindlaw12.BagForgets", spec := "bagForgets", unfollowed := true, recurses := true, apart := false, narrowed := true }
def BagForgetsUptoSaid : Prop := bagForgetsUptoRow.holds Try.pinned (OpenSpec.upto bagForgetsSpec)

/-- 'rescindlaw12.BagUndo', WHERE WHAT IT READS IS OF BULK AT MOST 1048576: true; the input reads as it did. -/
def bagUndoUptoRow : OpenClaim := { program := "ytoghgjgaolinaaa", sum := "e83877d1745b7ddfedc74f39e5b9ea4be0a427a58cce63a34955850682dd20ad", func := "rescind/rescindlaw12.BagUndo", spec := "bagUndo", unfollowed := true, recurses := true, apart := false, narrowed := true }
def BagUndoUptoSaid : Prop := bagUndoUptoRow.holds Try.pinned (OpenSpec.upto bagUndoSpec)

/-- 'rescindlaw14.PastFolds', WHERE WHAT IT READS IS OF BULK AT MOST 1048576: true; the input reads as it did. -/
def pastFoldsUptoRow : OpenClaim := { program := "ytoghgjgaolinaaa", sum := "e83877d1745b7ddfedc74f39e5b9ea4be0a427a58cce63a34955850682dd20ad", func := "rescind/rescindlaw14.PastFolds", spec := "pastFolds", inPlace := ["slices.overlaps[*rescind/past.event]"], unfollowed := true, recurses := true, apart := false, narrowed := true }
def PastFoldsUptoSaid : Prop := pastFoldsUptoRow.holds Try.pinned (OpenSpec.upto pastFoldsSpec)

end Rows
end Go.Proofs.Ytoghgjgaolinaaa
