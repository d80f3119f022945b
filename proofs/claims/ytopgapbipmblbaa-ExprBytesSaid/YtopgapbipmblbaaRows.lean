/-
  No cell of these rows narrows 'for every input' (looked for: loops, veiled, ifaces, maps, wideKeys, modest, calm, conditions, laid).
  DERIVED. THE GIVEN ROWS OF THIS SEAT. 4 by the template 'for every input the law returns true; each argument reads behind the call as it read before'; 0 by the template 'total and deterministic' (their statements: YtopgapbipmblbaaTotals.lean).
  GIVEN WITH THE SEED: the statements are not yours to turn. If you find one false, say at which input.
  Laid BY PROGRAM, IN A SANDBOX (cutbox-rows.mjs): the forced cells as the released guide's own fill.sh prints them over the translation 6bd7daa0274f7eef… (all of the seat's roots in one cut). By AI agents, Wed Nov 11 2026. No macro, syntax, notation, axiom, sorry.
-/
import Derived.Test.YtopgapbipmblbaaChecked
import GoSem.Claim
import GoSem.ClaimJoined
import GoSem.ClaimMapViews
import Derived.JoinedTies
import Derived.KernelRfl
namespace Go.Proofs.Ytopgapbipmblbaa
/- THE CELL 'sum', in the pinned program and in every row, IS THE sha256 OF THE DUMP (.gsa) THAT YtopgapbipmblbaaProg.lean LOADS. Nothing in Lean hashes anything: it is a label: what it is worth is what the hold of that sum in a sandbox is worth. -/
noncomputable def Try.pinned : Pinned := { name := "ytopgapbipmblbaa", sum := "6bd7daa0274f7eef5f83784e07ad8b16b9ee9639b75285f50cdd3d9fb0188ef6", checked := Try.checked }
namespace Rows
def none {H : Type} : Left H := { results := [], args := [] }

/-- 'rescindlaw17.ExprBytes': WHATEVER THE INPUT: true; the input reads as it did. -/
def exprBytesSpec : ChangeSpec := { name := "exprBytes", fn := fun _ => fun
  | [d1, d2, d3] => { results := [.lit (.bool true)], args := [d1, d2, d3] }
  | _ => none }
def exprBytesRow : OpenClaim := { program := "ytopgapbipmblbaa", sum := "6bd7daa0274f7eef5f83784e07ad8b16b9ee9639b75285f50cdd3d9fb0188ef6", func := "rescind/rescindlaw17.ExprBytes", spec := "exprBytes", unfollowed := true, recurses := true, apart := false }
def ExprBytesSaid : Prop := exprBytesRow.holds Try.pinned (OpenSpec.ofChange exprBytesSpec)

/-- ITS FALSE NEIGHBOUR: 'it returns false'. Refute it at one input. -/
def exprBytesWrong : ChangeSpec := { name := "exprBytes", fn := fun _ => fun
  | [d1, d2, d3] => { results := [.lit (.bool false)], args := [d1, d2, d3] }
  | _ => none }
def ExprBytesWrongFalsely : Prop := exprBytesRow.holds Try.pinned (OpenSpec.ofChange exprBytesWrong)

/-- 'rescindlaw18.EvalAnswers': WHATEVER THE INPUT: true; the input reads as it did. -/
def evalAnswersSpec : ChangeSpec := { name := "evalAnswers", fn := fun _ => fun
  | [d1, d2] => { results := [.lit (.bool true)], args := [d1, d2] }
  | _ => none }
def evalAnswersRow : OpenClaim := { program := "ytopgapbipmblbaa", sum := "6bd7daa0274f7eef5f83784e07ad8b16b9ee9639b75285f50cdd3d9fb0188ef6", func := "rescind/rescindlaw18.EvalAnswers", spec := "evalAnswers", unfollowed := true, recurses := true, apart := false }
def EvalAnswersSaid : Prop := evalAnswersRow.holds Try.pinned (OpenSpec.ofChange evalAnswersSpec)

/-- ITS FALSE NEIGHBOUR: 'it returns false'. Refute it at one input. -/
def evalAnswersWrong : ChangeSpec := { name := "evalAnswers", fn := fun _ => fun
  | [d1, d2] => { results := [.lit (.bool false)], args := [d1, d2] }
  | _ => none }
def EvalAnswersWrongFalsely : Prop := evalAnswersRow.holds Try.pinned (OpenSpec.ofChange evalAnswersWrong)

/-- 'rescindlaw18.EvalTyped': WHATEVER THE INPUT: true; the input reads as it did. -/
def evalTypedSpec : ChangeSpec := { name := "evalTyped", fn := fun _ => fun
  | [d1, d2, d3] => { results := [.lit (.bool true)], args := [d1, d2, d3] }
  | _ => none }
def evalTypedRow : OpenClaim := { program := "ytopgapbipmblbaa", sum := "6bd7daa0274f7eef5f83784e07ad8b16b9ee9639b75285f50cdd3d9fb0188ef6", func := "rescind/rescindlaw18.EvalTyped", spec := "evalTyped", unfollowed := true, recurses := true, apart := false }
def EvalTypedSaid : Prop := evalTypedRow.holds Try.pinned (OpenSpec.ofChange evalTypedSpec)

/-- ITS FALSE NEIGHBOUR: 'it returns false'. Refute it at one input. -/
def evalTypedWrong : ChangeSpec := { name := "evalTyped", fn := fun _ => fun
  | [d1, d2, d3] => { results := [.lit (.bool false)], args := [d1, d2, d3] }
  | _ => none }
def EvalTypedWrongFalsely : Prop := evalTypedRow.holds Try.pinned (OpenSpec.ofChange evalTypedWrong)

/-- 'rescindlaw18.EvalParts': WHATEVER THE INPUT: true; the input reads as it did. -/
def evalPartsSpec : ChangeSpec := { name := "evalParts", fn := fun _ => fun
  | [d1, d2] => { results := [.lit (.bool true)], args := [d1, d2] }
  | _ => none }
def evalPartsRow : OpenClaim := { program := "ytopgapbipmblbaa", sum := "6bd7daa0274f7eef5f83784e07ad8b16b9ee9639b75285f50cdd3d9fb0188ef6", func := "rescind/rescindlaw18.EvalParts", spec := "evalParts", unfollowed := true, recurses := true, apart := false }
def EvalPartsSaid : Prop := evalPartsRow.holds Try.pinned (OpenSpec.ofChange evalPartsSpec)

/-- ITS FALSE NEIGHBOUR: 'it returns false'. Refute it at one input. -/
def evalPartsWrong : ChangeSpec := { name := "evalParts", fn := fun _ => fun
  | [d1, d2] => { results := [.lit (.bool false)], args := [d1, d2] }
  | _ => none }
def EvalPartsWrongFalsely : Prop := evalPartsRow.holds Try.pinned (OpenSpec.ofChange evalPartsWrong)

/- THE SECOND FORM. 'bulk': how many values and letters a reading holds, each counted each time it is reached (what is shared counts as often as it is met; a slice's spare places count too). A statement '..UptoSaid' is the law's where the arguments, and the package variables that the reading takes, are together of bulk at most 1048576: NARROWER than '..Said'. Prove '..Said' where nothing that the law and all that it calls make is longer than what came in: it says more and counts as full. Else prove '..UptoSaid'. A law counts once. -/
mutual
def uptoBulk {H : Type} : DataW H → Nat
  | .lit (.string bytes) => bytes.length + 1
  | .lit _ => 1
  | .nil => 1
  | .ptr d => uptoBulk d + 1
  | .slice elems spare => uptoBulkAll elems + uptoBulkAll spare + 1
  | .agg parts => uptoBulkAll parts + 1
  | .iface _ d => uptoBulk d + 1
  | .map entries => uptoBulkEntries entries + 1
  | .held _ => 1
def uptoBulkAll {H : Type} : List (DataW H) → Nat
  | [] => 0
  | d :: r => uptoBulk d + uptoBulkAll r
def uptoBulkEntries {H : Type} : List (Lit × DataW H) → Nat
  | [] => 0
  | x :: r => uptoBulkEntry x + uptoBulkEntries r
def uptoBulkEntry {H : Type} : Lit × DataW H → Nat
  | (.string bytes, d) => bytes.length + uptoBulk d + 1
  | (_, d) => uptoBulk d + 1
 end
def uptoSmall : (H : Type) → List (DataW H) → Bool := fun _ ds => decide (uptoBulkAll ds ≤ 1048576)
def OpenSpec.upto (s : _root_.Go.ChangeSpec) : _root_.Go.OpenSpec := { _root_.Go.OpenSpec.ofChange s with cond := some uptoSmall }

/-- 'rescindlaw17.ExprBytes', WHERE WHAT IT READS IS OF BULK AT MOST 1048576: true; the input reads as it did. -/
def exprBytesUptoRow : OpenClaim := { program := "ytopgapbipmblbaa", sum := "6bd7daa0274f7eef5f83784e07ad8b16b9ee9639b75285f50cdd3d9fb0188ef6", func := "rescind/rescindlaw17.ExprBytes", spec := "exprBytes", unfollowed := true, recurses := true, apart := false, narrowed := true }
def ExprBytesUptoSaid : Prop := exprBytesUptoRow.holds Try.pinned (OpenSpec.upto exprBytesSpec)

/-- 'rescindlaw18.EvalAnswers', WHERE WHAT IT READS IS OF BULK AT MOST 1048576: true; the input reads as it did. -/
def evalAnswersUptoRow : OpenClaim := { program := "ytopgapbipmblbaa", sum := "6bd7daa0274f7eef5f83784e07ad8b16b9ee9639b75285f50cdd3d9fb0188ef6", func := "rescind/rescindlaw18.EvalAnswers", spec := "evalAnswers", unfollowed := true, recurses := true, apart := false, narrowed := true }
def EvalAnswersUptoSaid : Prop := evalAnswersUptoRow.holds Try.pinned (OpenSpec.upto evalAnswersSpec)

/-- 'rescindlaw18.EvalTyped', WHERE WHAT IT READS IS OF BULK AT MOST 1048576: true; the input reads as it did. -/
def evalTypedUptoRow : OpenClaim := { program := "ytopgapbipmblbaa", sum := "6bd7daa0274f7eef5f83784e07ad8b16b9ee9639b75285f50cdd3d9fb0188ef6", func := "rescind/rescindlaw18.EvalTyped", spec := "evalTyped", unfollowed := true, recurses := true, apart := false, narrowed := true }
def EvalTypedUptoSaid : Prop := evalTypedUptoRow.holds Try.pinned (OpenSpec.upto evalTypedSpec)

/-- 'rescindlaw18.EvalParts', WHERE WHAT IT READS IS OF BULK AT MOST 1048576: true; the input reads as it did. -/
def evalPartsUptoRow : OpenClaim := { program := "ytopgapbipmblbaa", sum := "6bd7daa0274f7eef5f83784e07ad8b16b9ee9639b75285f50cdd3d9fb0188ef6", func := "rescind/rescindlaw18.EvalParts", spec := "evalParts", unfollowed := true, recurses := true, apart := false, narrowed := true }
def EvalPartsUptoSaid : Prop := evalPartsUptoRow.holds Try.pinned (OpenSpec.upto evalPartsSpec)

end Rows
end Go.Proofs.Ytopgapbipmblbaa
