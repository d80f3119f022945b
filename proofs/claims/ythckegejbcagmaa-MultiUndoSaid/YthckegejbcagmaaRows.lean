/-
  No cell of these rows narrows 'for every input' (looked for: loops, veiled, ifaces, maps, wideKeys, modest, calm, conditions, laid).
  DERIVED. THE GIVEN ROWS OF THIS SEAT. 8 by the template 'for every input the law returns true; each argument reads behind the call as it read before'; 0 by the template 'total and deterministic' (their statements: YthckegejbcagmaaTotals.lean).
  GIVEN WITH THE SEED: the statements are not yours to turn. If you find one false, say at which input.
  Laid BY PROGRAM, IN A SANDBOX (cutbox-rows.mjs): the forced cells as the released guide's own fill.sh prints them over the translation dab7cf482dbbe904… (all of the seat's roots in one cut). By AI agents, Wed Nov 11 2026. No macro, syntax, notation, axiom, sorry.
-/
import Derived.Test.YthckegejbcagmaaChecked
import GoSem.Claim
import GoSem.ClaimJoined
import GoSem.ClaimMapViews
import Derived.JoinedTies
import Derived.KernelRfl
namespace Go.Proofs.Ythckegejbcagmaa
/- THE CELL 'sum', in the pinned program and in every row, IS THE sha256 OF THE DUMP (.gsa) THAT YthckegejbcagmaaProg.lean LOADS. Nothing in Lean hashes anything: it is a label: what it is worth is what the hold of that sum in a sandbox is worth. -/
noncomputable def Try.pinned : Pinned := { name := "ythckegejbcagmaa", sum := "dab7cf482dbbe904cf13e80ec5f6987658b75ab868d96874a70054f08d47df53", checked := Try.checked }
namespace Rows
def none {H : Type} : Left H := { results := [], args := [] }

/-- 'rescindlaw23.WideSums': WHATEVER THE INPUT: true; the input reads as it did. -/
def wideSumsSpec : ChangeSpec := { name := "wideSums", fn := fun _ => fun
  | [d1, d2] => { results := [.lit (.bool true)], args := [d1, d2] }
  | _ => none }
def wideSumsRow : OpenClaim := { program := "ythckegejbcagmaa", sum := "dab7cf482dbbe904cf13e80ec5f6987658b75ab868d96874a70054f08d47df53", func := "rescind/rescindlaw23.WideSums", spec := "wideSums", inPlace := ["math/bits.Add64"], unfollowed := true, recurses := true, apart := false }
def WideSumsSaid : Prop := wideSumsRow.holds Try.pinned (OpenSpec.ofChange wideSumsSpec)

/-- ITS FALSE NEIGHBOUR: 'it returns false'. Refute it at one input. -/
def wideSumsWrong : ChangeSpec := { name := "wideSums", fn := fun _ => fun
  | [d1, d2] => { results := [.lit (.bool false)], args := [d1, d2] }
  | _ => none }
def WideSumsWrongFalsely : Prop := wideSumsRow.holds Try.pinned (OpenSpec.ofChange wideSumsWrong)

/-- 'rescindlaw23.WideUndo': WHATEVER THE INPUT: true; the input reads as it did. -/
def wideUndoSpec : ChangeSpec := { name := "wideUndo", fn := fun _ => fun
  | [d1, d2] => { results := [.lit (.bool true)], args := [d1, d2] }
  | _ => none }
def wideUndoRow : OpenClaim := { program := "ythckegejbcagmaa", sum := "dab7cf482dbbe904cf13e80ec5f6987658b75ab868d96874a70054f08d47df53", func := "rescind/rescindlaw23.WideUndo", spec := "wideUndo", inPlace := ["math/bits.Add64"], unfollowed := true, recurses := true, apart := false }
def WideUndoSaid : Prop := wideUndoRow.holds Try.pinned (OpenSpec.ofChange wideUndoSpec)

/-- ITS FALSE NEIGHBOUR: 'it returns false'. Refute it at one input. -/
def wideUndoWrong : ChangeSpec := { name := "wideUndo", fn := fun _ => fun
  | [d1, d2] => { results := [.lit (.bool false)], args := [d1, d2] }
  | _ => none }
def WideUndoWrongFalsely : Prop := wideUndoRow.holds Try.pinned (OpenSpec.ofChange wideUndoWrong)

/-- 'rescindlaw23.WideMuls': WHATEVER THE INPUT: true; the input reads as it did. -/
def wideMulsSpec : ChangeSpec := { name := "wideMuls", fn := fun _ => fun
  | [d1, d2] => { results := [.lit (.bool true)], args := [d1, d2] }
  | _ => none }
def wideMulsRow : OpenClaim := { program := "ythckegejbcagmaa", sum := "dab7cf482dbbe904cf13e80ec5f6987658b75ab868d96874a70054f08d47df53", func := "rescind/rescindlaw23.WideMuls", spec := "wideMuls", inPlace := ["math/bits.Add64"], unfollowed := true, recurses := true, apart := false }
def WideMulsSaid : Prop := wideMulsRow.holds Try.pinned (OpenSpec.ofChange wideMulsSpec)

/-- ITS FALSE NEIGHBOUR: 'it returns false'. Refute it at one input. -/
def wideMulsWrong : ChangeSpec := { name := "wideMuls", fn := fun _ => fun
  | [d1, d2] => { results := [.lit (.bool false)], args := [d1, d2] }
  | _ => none }
def WideMulsWrongFalsely : Prop := wideMulsRow.holds Try.pinned (OpenSpec.ofChange wideMulsWrong)

/-- 'rescindlaw23.WideRing': WHATEVER THE INPUT: true; the input reads as it did. -/
def wideRingSpec : ChangeSpec := { name := "wideRing", fn := fun _ => fun
  | [d1, d2, d3] => { results := [.lit (.bool true)], args := [d1, d2, d3] }
  | _ => none }
def wideRingRow : OpenClaim := { program := "ythckegejbcagmaa", sum := "dab7cf482dbbe904cf13e80ec5f6987658b75ab868d96874a70054f08d47df53", func := "rescind/rescindlaw23.WideRing", spec := "wideRing", inPlace := ["math/bits.Add64"], unfollowed := true, recurses := true, apart := false }
def WideRingSaid : Prop := wideRingRow.holds Try.pinned (OpenSpec.ofChange wideRingSpec)

/-- ITS FALSE NEIGHBOUR: 'it returns false'. Refute it at one input. -/
def wideRingWrong : ChangeSpec := { name := "wideRing", fn := fun _ => fun
  | [d1, d2, d3] => { results := [.lit (.bool false)], args := [d1, d2, d3] }
  | _ => none }
def WideRingWrongFalsely : Prop := wideRingRow.holds Try.pinned (OpenSpec.ofChange wideRingWrong)

/-- 'rescindlaw23.WideInts': WHATEVER THE INPUT: true; the input reads as it did. -/
def wideIntsSpec : ChangeSpec := { name := "wideInts", fn := fun _ => fun
  | [d1, d2, d3] => { results := [.lit (.bool true)], args := [d1, d2, d3] }
  | _ => none }
def wideIntsRow : OpenClaim := { program := "ythckegejbcagmaa", sum := "dab7cf482dbbe904cf13e80ec5f6987658b75ab868d96874a70054f08d47df53", func := "rescind/rescindlaw23.WideInts", spec := "wideInts", inPlace := ["math/bits.Add64"], unfollowed := true, recurses := true, apart := false }
def WideIntsSaid : Prop := wideIntsRow.holds Try.pinned (OpenSpec.ofChange wideIntsSpec)

/-- ITS FALSE NEIGHBOUR: 'it returns false'. Refute it at one input. -/
def wideIntsWrong : ChangeSpec := { name := "wideInts", fn := fun _ => fun
  | [d1, d2, d3] => { results := [.lit (.bool false)], args := [d1, d2, d3] }
  | _ => none }
def WideIntsWrongFalsely : Prop := wideIntsRow.holds Try.pinned (OpenSpec.ofChange wideIntsWrong)

/-- 'rescindlaw24.MultiPuts': WHATEVER THE INPUT: true; the input reads as it did. -/
def multiPutsSpec : ChangeSpec := { name := "multiPuts", fn := fun _ => fun
  | [d1, d2, d3] => { results := [.lit (.bool true)], args := [d1, d2, d3] }
  | _ => none }
def multiPutsRow : OpenClaim := { program := "ythckegejbcagmaa", sum := "dab7cf482dbbe904cf13e80ec5f6987658b75ab868d96874a70054f08d47df53", func := "rescind/rescindlaw24.MultiPuts", spec := "multiPuts", inPlace := ["slices.overlaps[rescind/multi.thing[int]]"], unfollowed := true, recurses := true, apart := false }
def MultiPutsSaid : Prop := multiPutsRow.holds Try.pinned (OpenSpec.ofChange multiPutsSpec)

/-- ITS FALSE NEIGHBOUR: 'it returns false'. Refute it at one input. -/
def multiPutsWrong : ChangeSpec := { name := "multiPuts", fn := fun _ => fun
  | [d1, d2, d3] => { results := [.lit (.bool false)], args := [d1, d2, d3] }
  | _ => none }
def MultiPutsWrongFalsely : Prop := multiPutsRow.holds Try.pinned (OpenSpec.ofChange multiPutsWrong)

/-- 'rescindlaw24.MultiAll': WHATEVER THE INPUT: true; the input reads as it did. -/
def multiAllSpec : ChangeSpec := { name := "multiAll", fn := fun _ => fun
  | [d] => { results := [.lit (.bool true)], args := [d] }
  | _ => none }
def multiAllRow : OpenClaim := { program := "ythckegejbcagmaa", sum := "dab7cf482dbbe904cf13e80ec5f6987658b75ab868d96874a70054f08d47df53", func := "rescind/rescindlaw24.MultiAll", spec := "multiAll", inPlace := ["slices.overlaps[rescind/multi.thing[int]]"], unfollowed := true, recurses := true, apart := false }
def MultiAllSaid : Prop := multiAllRow.holds Try.pinned (OpenSpec.ofChange multiAllSpec)

/-- ITS FALSE NEIGHBOUR: 'it returns false'. Refute it at one input. -/
def multiAllWrong : ChangeSpec := { name := "multiAll", fn := fun _ => fun
  | [d] => { results := [.lit (.bool false)], args := [d] }
  | _ => none }
def MultiAllWrongFalsely : Prop := multiAllRow.holds Try.pinned (OpenSpec.ofChange multiAllWrong)

/-- 'rescindlaw24.MultiUndo': WHATEVER THE INPUT: true; the input reads as it did. -/
def multiUndoSpec : ChangeSpec := { name := "multiUndo", fn := fun _ => fun
  | [d1, d2, d3, d4] => { results := [.lit (.bool true)], args := [d1, d2, d3, d4] }
  | _ => none }
def multiUndoRow : OpenClaim := { program := "ythckegejbcagmaa", sum := "dab7cf482dbbe904cf13e80ec5f6987658b75ab868d96874a70054f08d47df53", func := "rescind/rescindlaw24.MultiUndo", spec := "multiUndo", inPlace := ["slices.overlaps[rescind/multi.thing[int]]"], unfollowed := true, recurses := true, apart := false }
def MultiUndoSaid : Prop := multiUndoRow.holds Try.pinned (OpenSpec.ofChange multiUndoSpec)

/-- ITS FALSE NEIGHBOUR: 'it returns false'. Refute it at one input. -/
def multiUndoWrong : ChangeSpec := { name := "multiUndo", fn := fun _ => fun
  | [d1, d2, d3, d4] => { results := [.lit (.bool false)], args := [d1, d2, d3, d4] }
  | _ => none }
def MultiUndoWrongFalsely : Prop := multiUndoRow.holds Try.pinned (OpenSpec.ofChange multiUndoWrong)

/- THE SECOND FORM. 'bulk': how many values and letters a reading holds, each counted each time it is reached (what is shared counts as often as it is met; a slice's spare places count too). A statement '..UptoSaid' is the law's where the arguments, and the package variables that the reading takes, are together of bulk at most 1048576: NARROWER than '..Said'. Prove '..Said' where nothing that the law and all that it calls make is longer than what came in: it says more and counts as full. Else prove '..UptoSaid'. A law counts once. -/
mutual
def uptoBulk {H : Type} : DataW H → Nat
  | .lit (.string bytes) => bytes.length + 1
  | .lit _ => 1
  | .nil => 1
  | .ptr d => uptoBulk d + 1
  | .slice elems spare => uptoBulkAll elems + uptoBulkAll spare + 1
  | .agg parts => uptoBulkAll parts + 1
  | .iface _ d => uptoBulk d + 1
  | .map entries => uptoBulkEntries entries + 1
  | .held _ => 1
def uptoBulkAll {H : Type} : List (DataW H) → Nat
  | [] => 0
  | d :: r => uptoBulk d + uptoBulkAll r
def uptoBulkEntries {H : Type} : List (Lit × DataW H) → Nat
  | [] => 0
  | x :: r => uptoBulkEntry x + uptoBulkEntries r
def uptoBulkEntry {H : Type} : Lit × DataW H → Nat
  | (.string bytes, d) => bytes.length + uptoBulk d + 1
  | (_, d) => uptoBulk d + 1
 end
def uptoSmall : (H : Type) → List (DataW H) → Bool := fun _ ds => decide (uptoBulkAll ds ≤ 1048576)
def OpenSpec.upto (s : _root_.Go.ChangeSpec) : _root_.Go.OpenSpec := { _root_.Go.OpenSpec.ofChange s with cond := some uptoSmall }

/-- 'rescindlaw23.WideSums', WHERE WHAT IT READS IS OF BULK AT MOST 1048576: true; the input reads as it did. -/
def wideSumsUptoRow : OpenClaim := { program := "ythckegejbcagmaa", sum := "dab7cf482dbbe904cf13e80ec5f6987658b75ab868d96874a70054f08d47df53", func := "rescind/rescindlaw23.WideSums", spec := "wideSums", inPlace := ["math/bits.Add64"], unfollowed := true, recurses := true, apart := false, narrowed := true }
def WideSumsUptoSaid : Prop := wideSumsUptoRow.holds Try.pinned (OpenSpec.upto wideSumsSpec)

/-- 'rescindlaw23.WideUndo', WHERE WHAT IT READS IS OF BULK AT MOST 1048576: true; the input reads as it did. -/
def wideUndoUptoRow : OpenClaim := { program := "ythckegejbcagmaa", sum := "dab7cf482dbbe904cf13e80ec5f6987658b75ab868d96874a70054f08d47df53", func := "rescind/rescindlaw23.WideUndo", spec := "wideUndo", inPlace := ["math/bits.Add64"], unfollowed := true, recurses := true, apart := false, narrowed := true }
def WideUndoUptoSaid : Prop := wideUndoUptoRow.holds Try.pinned (OpenSpec.upto wideUndoSpec)

/-- 'rescindlaw23.WideMuls', WHERE WHAT IT READS IS OF BULK AT MOST 1048576: true; the input reads as it did. -/
def wideMulsUptoRow : OpenClaim := { program := "ythckegejbcagmaa", sum := "dab7cf482dbbe904cf13e80ec5f6987658b75ab868d96874a70054f08d47df53", func := "rescind/rescindlaw23.WideMuls", spec := "wideMuls", inPlace := ["math/bits.Add64"], unfollowed := true, recurses := true, apart := false, narrowed := true }
def WideMulsUptoSaid : Prop := wideMulsUptoRow.holds Try.pinned (OpenSpec.upto wideMulsSpec)

/-- 'rescindlaw23.WideRing', WHERE WHAT IT READS IS OF BULK AT MOST 1048576: true; the input reads as it did. -/
def wideRingUptoRow : OpenClaim := { program := "ythckegejbcagmaa", sum := "dab7cf482dbbe904cf13e80ec5f6987658b75ab868d96874a70054f08d47df53", func := "rescind/rescindlaw23.WideRing", spec := "wideRing", inPlace := ["math/bits.Add64"], unfollowed := true, recurses := true, apart := false, narrowed := true }
def WideRingUptoSaid : Prop := wideRingUptoRow.holds Try.pinned (OpenSpec.upto wideRingSpec)

/-- 'rescindlaw23.WideInts', WHERE WHAT IT READS IS OF BULK AT MOST 1048576: true; the input reads as it did. -/
def wideIntsUptoRow : OpenClaim := { program := "ythckegejbcagmaa", sum := "dab7cf482dbbe904cf13e80ec5f6987658b75ab868d96874a70054f08d47df53", func := "rescind/rescindlaw23.WideInts", spec := "wideInts", inPlace := ["math/bits.Add64"], unfollowed := true, recurses := true, apart := false, narrowed := true }
def WideIntsUptoSaid : Prop := wideIntsUptoRow.holds Try.pinned (OpenSpec.upto wideIntsSpec)

/-- 'rescindlaw24.MultiPuts', WHERE WHAT IT READS IS OF BULK AT MOST 1048576: true; the input reads as it did. -/
def multiPutsUptoRow : OpenClaim := { program := "ythckegejbcagmaa", sum := "dab7cf482dbbe904cf13e80ec5f6987658b75ab868d96874a70054f08d47df53", func := "rescind/rescindlaw24.MultiPuts", spec := "multiPuts", inPlace := ["slices.overlaps[rescind/multi.thing[int]]"], unfollowed := true, recurses := true, apart := false, narrowed := true }
def MultiPutsUptoSaid : Prop := multiPutsUptoRow.holds Try.pinned (OpenSpec.upto multiPutsSpec)

/-- 'rescindlaw24.MultiAll', WHERE WHAT IT READS IS OF BULK AT MOST 1048576: true; the input reads as it did. -/
def multiAllUptoRow : OpenClaim := { program := "ythckegejbcagmaa", sum := "dab7cf482dbbe904cf13e80ec5f6987658b75ab868d96874a70054f08d47df53", func := "rescind/rescindlaw24.MultiAll", spec := "multiAll", inPlace := ["slices.overlaps[rescind/multi.thing[int]]"], unfollowed := true, recurses := true, apart := false, narrowed := true }
def MultiAllUptoSaid : Prop := multiAllUptoRow.holds Try.pinned (OpenSpec.upto multiAllSpec)

/-- 'rescindlaw24.MultiUndo', WHERE WHAT IT READS IS OF BULK AT MOST 1048576: true; the input reads as it did. -/
def multiUndoUptoRow : OpenClaim := { program := "ythckegejbcagmaa", sum := "dab7cf482dbbe904cf13e80ec5f6987658b75ab868d96874a70054f08d47df53", func := "rescind/rescindlaw24.MultiUndo", spec := "multiUndo", inPlace := ["slices.overlaps[rescind/multi.thing[int]]"], unfollowed := true, recurses := true, apart := false, narrowed := true }
def MultiUndoUptoSaid : Prop := multiUndoUptoRow.holds Try.pinned (OpenSpec.upto multiUndoSpec)

end Rows
end Go.Proofs.Ythckegejbcagmaa
