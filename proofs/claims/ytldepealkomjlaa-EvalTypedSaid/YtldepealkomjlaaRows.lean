/-
  No cell of these rows narrows 'for every input' (looked for: loops, veiled, ifaces, maps, wideKeys, modest, calm, conditions, laid).
  DERIVED. THE GIVEN ROWS OF THIS SEAT. 7 by the template 'for every input the law returns true; each argument reads behind the call as it read before'; 0 by the template 'total and deterministic' (their statements: YtldepealkomjlaaTotals.lean).
  GIVEN WITH THE SEED: the statements are not yours to turn. If you find one false, say at which input.
  Laid BY PROGRAM, IN A SANDBOX (cutbox-rows.mjs): the forced cells as the released guide's own fill.sh prints them over the translation 7295e38499c9a8dd… (all of the seat's roots in one cut). By AI agents, Wed Nov 11 2026. No macro, syntax, notation, axiom, sorry.
-/
import Derived.Test.YtldepealkomjlaaChecked
import GoSem.Claim
import GoSem.ClaimJoined
import GoSem.ClaimMapViews
import Derived.JoinedTies
import Derived.KernelRfl
namespace Go.Proofs.Ytldepealkomjlaa
/- THE CELL 'sum', in the pinned program and in every row, IS THE sha256 OF THE DUMP (.gsa) THAT YtldepealkomjlaaProg.lean LOADS. Nothing in Lean hashes anything: it is a label: what it is worth is what the hold of that sum in a sandbox is worth. -/
noncomputable def Try.pinned : Pinned := { name := "ytldepealkomjlaa", sum := "7295e38499c9a8dd033a7debc4d5b42494831164198510ca71cfe193012cac00", checked := Try.checked }
namespace Rows
def none {H : Type} : Left H := { results := [], args := [] }

/-- 'rescindlaw17.ExprForm': WHATEVER THE INPUT: true; the input reads as it did. -/
def exprFormSpec : ChangeSpec := { name := "exprForm", fn := fun _ => fun
  | [d1, d2] => { results := [.lit (.bool true)], args := [d1, d2] }
  | _ => none }
def exprFormRow : OpenClaim := { program := "ytldepealkomjlaa", sum := "7295e38499c9a8dd033a7debc4d5b42494831164198510ca71cfe193012cac00", func := "rescind/rescindlaw17.ExprForm", spec := "exprForm", unfollowed := true, recurses := true, apart := false }
def ExprFormSaid : Prop := exprFormRow.holds Try.pinned (OpenSpec.ofChange exprFormSpec)

/-- ITS FALSE NEIGHBOUR: 'it returns false'. Refute it at one input. -/
def exprFormWrong : ChangeSpec := { name := "exprForm", fn := fun _ => fun
  | [d1, d2] => { results := [.lit (.bool false)], args := [d1, d2] }
  | _ => none }
def ExprFormWrongFalsely : Prop := exprFormRow.holds Try.pinned (OpenSpec.ofChange exprFormWrong)

/-- 'rescindlaw17.ExprKinds': WHATEVER THE INPUT: true; the input reads as it did. -/
def exprKindsSpec : ChangeSpec := { name := "exprKinds", fn := fun _ => fun
  | [d1, d2] => { results := [.lit (.bool true)], args := [d1, d2] }
  | _ => none }
def exprKindsRow : OpenClaim := { program := "ytldepealkomjlaa", sum := "7295e38499c9a8dd033a7debc4d5b42494831164198510ca71cfe193012cac00", func := "rescind/rescindlaw17.ExprKinds", spec := "exprKinds", unfollowed := true, recurses := true, apart := false }
def ExprKindsSaid : Prop := exprKindsRow.holds Try.pinned (OpenSpec.ofChange exprKindsSpec)

/-- ITS FALSE NEIGHBOUR: 'it returns false'. Refute it at one input. -/
def exprKindsWrong : ChangeSpec := { name := "exprKinds", fn := fun _ => fun
  | [d1, d2] => { results := [.lit (.bool false)], args := [d1, d2] }
  | _ => none }
def ExprKindsWrongFalsely : Prop := exprKindsRow.holds Try.pinned (OpenSpec.ofChange exprKindsWrong)

/-- 'rescindlaw17.ExprParts': WHATEVER THE INPUT: true; the input reads as it did. -/
def exprPartsSpec : ChangeSpec := { name := "exprParts", fn := fun _ => fun
  | [d] => { results := [.lit (.bool true)], args := [d] }
  | _ => none }
def exprPartsRow : OpenClaim := { program := "ytldepealkomjlaa", sum := "7295e38499c9a8dd033a7debc4d5b42494831164198510ca71cfe193012cac00", func := "rescind/rescindlaw17.ExprParts", spec := "exprParts", unfollowed := true, recurses := true, apart := false }
def ExprPartsSaid : Prop := exprPartsRow.holds Try.pinned (OpenSpec.ofChange exprPartsSpec)

/-- ITS FALSE NEIGHBOUR: 'it returns false'. Refute it at one input. -/
def exprPartsWrong : ChangeSpec := { name := "exprParts", fn := fun _ => fun
  | [d] => { results := [.lit (.bool false)], args := [d] }
  | _ => none }
def ExprPartsWrongFalsely : Prop := exprPartsRow.holds Try.pinned (OpenSpec.ofChange exprPartsWrong)

/-- 'rescindlaw17.ExprBytes': WHATEVER THE INPUT: true; the input reads as it did. -/
def exprBytesSpec : ChangeSpec := { name := "exprBytes", fn := fun _ => fun
  | [d1, d2, d3] => { results := [.lit (.bool true)], args := [d1, d2, d3] }
  | _ => none }
def exprBytesRow : OpenClaim := { program := "ytldepealkomjlaa", sum := "7295e38499c9a8dd033a7debc4d5b42494831164198510ca71cfe193012cac00", func := "rescind/rescindlaw17.ExprBytes", spec := "exprBytes", unfollowed := true, recurses := true, apart := false }
def ExprBytesSaid : Prop := exprBytesRow.holds Try.pinned (OpenSpec.ofChange exprBytesSpec)

/-- ITS FALSE NEIGHBOUR: 'it returns false'. Refute it at one input. -/
def exprBytesWrong : ChangeSpec := { name := "exprBytes", fn := fun _ => fun
  | [d1, d2, d3] => { results := [.lit (.bool false)], args := [d1, d2, d3] }
  | _ => none }
def ExprBytesWrongFalsely : Prop := exprBytesRow.holds Try.pinned (OpenSpec.ofChange exprBytesWrong)

/-- 'rescindlaw18.EvalAnswers': WHATEVER THE INPUT: true; the input reads as it did. -/
def evalAnswersSpec : ChangeSpec := { name := "evalAnswers", fn := fun _ => fun
  | [d1, d2] => { results := [.lit (.bool true)], args := [d1, d2] }
  | _ => none }
def evalAnswersRow : OpenClaim := { program := "ytldepealkomjlaa", sum := "7295e38499c9a8dd033a7debc4d5b42494831164198510ca71cfe193012cac00", func := "rescind/rescindlaw18.EvalAnswers", spec := "evalAnswers", unfollowed := true, recurses := true, apart := false }
def EvalAnswersSaid : Prop := evalAnswersRow.holds Try.pinned (OpenSpec.ofChange evalAnswersSpec)

/-- ITS FALSE NEIGHBOUR: 'it returns false'. Refute it at one input. -/
def evalAnswersWrong : ChangeSpec := { name := "evalAnswers", fn := fun _ => fun
  | [d1, d2] => { results := [.lit (.bool false)], args := [d1, d2] }
  | _ => none }
def EvalAnswersWrongFalsely : Prop := evalAnswersRow.holds Try.pinned (OpenSpec.ofChange evalAnswersWrong)

/-- 'rescindlaw18.EvalTyped': WHATEVER THE INPUT: true; the input reads as it did. -/
def evalTypedSpec : ChangeSpec := { name := "evalTyped", fn := fun _ => fun
  | [d1, d2, d3] => { results := [.lit (.bool true)], args := [d1, d2, d3] }
  | _ => none }
def evalTypedRow : OpenClaim := { program := "ytldepealkomjlaa", sum := "7295e38499c9a8dd033a7debc4d5b42494831164198510ca71cfe193012cac00", func := "rescind/rescindlaw18.EvalTyped", spec := "evalTyped", unfollowed := true, recurses := true, apart := false }
def EvalTypedSaid : Prop := evalTypedRow.holds Try.pinned (OpenSpec.ofChange evalTypedSpec)

/-- ITS FALSE NEIGHBOUR: 'it returns false'. Refute it at one input. -/
def evalTypedWrong : ChangeSpec := { name := "evalTyped", fn := fun _ => fun
  | [d1, d2, d3] => { results := [.lit (.bool false)], args := [d1, d2, d3] }
  | _ => none }
def EvalTypedWrongFalsely : Prop := evalTypedRow.holds Try.pinned (OpenSpec.ofChange evalTypedWrong)

/-- 'rescindlaw18.EvalParts': WHATEVER THE INPUT: true; the input reads as it did. -/
def evalPartsSpec : ChangeSpec := { name := "evalParts", fn := fun _ => fun
  | [d1, d2] => { results := [.lit (.bool true)], args := [d1, d2] }
  | _ => none }
def evalPartsRow : OpenClaim := { program := "ytldepealkomjlaa", sum := "7295e38499c9a8dd033a7debc4d5b42494831164198510ca71cfe193012cac00", func := "rescind/rescindlaw18.EvalParts", spec := "evalParts", unfollowed := true, recurses := true, apart := false }
def EvalPartsSaid : Prop := evalPartsRow.holds Try.pinned (OpenSpec.ofChange evalPartsSpec)

/-- ITS FALSE NEIGHBOUR: 'it returns false'. Refute it at one input. -/
def evalPartsWrong : ChangeSpec := { name := "evalParts", fn := fun _ => fun
  | [d1, d2] => { results := [.lit (.bool false)], args := [d1, d2] }
  | _ => none }
def EvalPartsWrongFalsely : Prop := evalPartsRow.holds Try.pinned (OpenSpec.ofChange evalPartsWrong)

/- THE SECOND FORM. 'bulk': how many values and letters a reading holds, each counted each time it is reached (what is shared counts as often as it is met; a slice's spare places count too). A statement '..UptoSaid' is the law's where the arguments, and the package variables that the reading takes, are together of bulk at most 1048576: NARROWER than '..Said'. Prove '..Said' where nothing that the law and all that it calls make is longer than what came in: it says more and counts as full. Else prove '..UptoSaid'. A law counts once. -/
mutual
def uptoBulk {H : Type} : DataW H → Nat
  | .lit (.string bytes) => bytes.length + 1
  | .lit _ => 1
  | .nil => 1
  | .ptr d => uptoBulk d + 1
  | .slice elems spare => uptoBulkAll elems + uptoBulkAll spare + 1
  | .agg parts => uptoBulkAll parts + 1
  | .iface _ d => uptoBulk d + 1
  | .map entries => uptoBulkEntries entries + 1
  | .held _ => 1
def uptoBulkAll {H : Type} : List (DataW H) → Nat
  | [] => 0
  | d :: r => uptoBulk d + uptoBulkAll r
def uptoBulkEntries {H : Type} : List (Lit × DataW H) → Nat
  | [] => 0
  | x :: r => uptoBulkEntry x + uptoBulkEntries r
def uptoBulkEntry {H : Type} : Lit × DataW H → Nat
  | (.string bytes, d) => bytes.length + uptoBulk d + 1
  | (_, d) => uptoBulk d + 1
 end
def uptoSmall : (H : Type) → List (DataW H) → Bool := fun _ ds => decide (uptoBulkAll ds ≤ 1048576)
def OpenSpec.upto (s : _root_.Go.ChangeSpec) : _root_.Go.OpenSpec := { _root_.Go.OpenSpec.ofChange s with cond := some uptoSmall }

/-- 'rescindlaw17.ExprForm', WHERE WHAT IT READS IS OF BULK AT MOST 1048576: true; the input reads as it did. -/
def exprFormUptoRow : OpenClaim := { program := "ytldepealkomjlaa", sum := "7295e38499c9a8dd033a7debc4d5b42494831164198510ca71cfe193012cac00", func := "rescind/rescindlaw17.ExprForm", spec := "exprForm", unfollowed := true, recurses := true, apart := false, narrowed := true }
def ExprFormUptoSaid : Prop := exprFormUptoRow.holds Try.pinned (OpenSpec.upto exprFormSpec)

/-- 'rescindlaw17.ExprKinds', WHERE WHAT IT READS IS OF BULK AT MOST 1048576: true; the input reads as it did. -/
def exprKindsUptoRow : OpenClaim := { program := "ytldepealkomjlaa", sum := "7295e38499c9a8dd033a7debc4d5b42494831164198510ca71cfe193012cac00", func := "rescind/rescindlaw17.ExprKinds", spec := "exprKinds", unfollowed := true, recurses := true, apart := false, narrowed := true }
def ExprKindsUptoSaid : Prop := exprKindsUptoRow.holds Try.pinned (OpenSpec.upto exprKindsSpec)

/-- 'rescindlaw17.ExprParts', WHERE WHAT IT READS IS OF BULK AT MOST 1048576: true; the input reads as it did. -/
def exprPartsUptoRow : OpenClaim := { program := "ytldepealkomjlaa", sum := "7295e38499c9a8dd033a7debc4d5b42494831164198510ca71cfe193012cac00", func := "rescind/rescindlaw17.ExprParts", spec := "exprParts", unfollowed := true, recurses := true, apart := false, narrowed := true }
def ExprPartsUptoSaid : Prop := exprPartsUptoRow.holds Try.pinned (OpenSpec.upto exprPartsSpec)

/-- 'rescindlaw17.ExprBytes', WHERE WHAT IT READS IS OF BULK AT MOST 1048576: true; the input reads as it did. -/
def exprBytesUptoRow : OpenClaim := { program := "ytldepealkomjlaa", sum := "7295e38499c9a8dd033a7debc4d5b42494831164198510ca71cfe193012cac00", func := "rescind/rescindlaw17.ExprBytes", spec := "exprBytes", unfollowed := true, recurses := true, apart := false, narrowed := true }
def ExprBytesUptoSaid : Prop := exprBytesUptoRow.holds Try.pinned (OpenSpec.upto exprBytesSpec)

/-- 'rescindlaw18.EvalAnswers', WHERE WHAT IT READS IS OF BULK AT MOST 1048576: true; the input reads as it did. -/
def evalAnswersUptoRow : OpenClaim := { program := "ytldepealkomjlaa", sum := "7295e38499c9a8dd033a7debc4d5b42494831164198510ca71cfe193012cac00", func := "rescind/rescindlaw18.EvalAnswers", spec := "evalAnswers", unfollowed := true, recurses := true, apart := false, narrowed := true }
def EvalAnswersUptoSaid : Prop := evalAnswersUptoRow.holds Try.pinned (OpenSpec.upto evalAnswersSpec)

/-- 'rescindlaw18.EvalTyped', WHERE WHAT IT READS IS OF BULK AT MOST 1048576: true; the input reads as it did. -/
def evalTypedUptoRow : OpenClaim := { program := "ytldepealkomjlaa", sum := "7295e38499c9a8dd033a7debc4d5b42494831164198510ca71cfe193012cac00", func := "rescind/rescindlaw18.EvalTyped", spec := "evalTyped", unfollowed := true, recurses := true, apart := false, narrowed := true }
def EvalTypedUptoSaid : Prop := evalTypedUptoRow.holds Try.pinned (OpenSpec.upto evalTypedSpec)

/-- 'rescindlaw18.EvalParts', WHERE WHAT IT READS IS OF BULK AT MOST 1048576: true; the input reads as it did. -/
def evalPartsUptoRow : OpenClaim := { program := "ytldepealkomjlaa", sum := "7295e38499c9a8dd033a7debc4d5b42494831164198510ca71cfe193012cac00", func := "rescind/rescindlaw18.EvalParts", spec := "evalParts", unfollowed := true, recurses := true, apart := false, narrowed := true }
def EvalPartsUptoSaid : Prop := evalPartsUptoRow.holds Try.pinned (OpenSpec.upto evalPartsSpec)

end Rows
end Go.Proofs.Ytldepealkomjlaa
