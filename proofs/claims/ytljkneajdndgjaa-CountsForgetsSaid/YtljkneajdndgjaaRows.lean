/-
  No cell of these rows narrows 'for every input' (looked for: loops, veiled, ifaces, maps, wideKeys, modest, calm, conditions, laid).
  DERIVED. THE GIVEN ROWS OF THIS SEAT. 4 by the template 'for every input the law returns true; each argument reads behind the call as it read before'; 0 by the template 'total and deterministic' (their statements: YtljkneajdndgjaaTotals.lean).
  GIVEN WITH THE SEED: the statements are not yours to turn. If you find one false, say at which input.
  Laid BY PROGRAM, IN A SANDBOX (cutbox-rows.mjs): the forced cells as the released guide's own fill.sh prints them over the translation da5fc985fba4ff37… (all of the seat's roots in one cut). By AI agents, Wed Nov 11 2026. No macro, syntax, notation, axiom, sorry.
-/
import Derived.Test.YtljkneajdndgjaaChecked
import GoSem.Claim
import GoSem.ClaimJoined
import GoSem.ClaimMapViews
import Derived.JoinedTies
import Derived.KernelRfl
namespace Go.Proofs.Ytljkneajdndgjaa
/- THE CELL 'sum', in the pinned program and in every row, IS THE sha256 OF THE DUMP (.gsa) THAT YtljkneajdndgjaaProg.lean LOADS. Nothing in Lean hashes anything: it is a label: what it is worth is what the hold of that sum in a sandbox is worth. -/
noncomputable def Try.pinned : Pinned := { name := "ytljkneajdndgjaa", sum := "da5fc985fba4ff374bae4534e649a7705ceff7bab5141332e3365dc1630f9371", checked := Try.checked }
namespace Rows
def none {H : Type} : Left H := { results := [], args := [] }

/-- 'rescindlaw29.CountsStarts': WHATEVER THE INPUT: true; the input reads as it did. -/
def countsStartsSpec : ChangeSpec := { name := "countsStarts", fn := fun _ => fun
  | [d1, d2, d3] => { results := [.lit (.bool true)], args := [d1, d2, d3] }
  | _ => none }
def countsStartsRow : OpenClaim := { program := "ytljkneajdndgjaa", sum := "da5fc985fba4ff374bae4534e649a7705ceff7bab5141332e3365dc1630f9371", func := "rescind/rescindlaw29.CountsStarts", spec := "countsStarts", unfollowed := true, recurses := true, apart := false }
def CountsStartsSaid : Prop := countsStartsRow.holds Try.pinned (OpenSpec.ofChange countsStartsSpec)

/-- ITS FALSE NEIGHBOUR: 'it returns false'. Refute it at one input. -/
def countsStartsWrong : ChangeSpec := { name := "countsStarts", fn := fun _ => fun
  | [d1, d2, d3] => { results := [.lit (.bool false)], args := [d1, d2, d3] }
  | _ => none }
def CountsStartsWrongFalsely : Prop := countsStartsRow.holds Try.pinned (OpenSpec.ofChange countsStartsWrong)

/-- 'rescindlaw29.CountsParts': WHATEVER THE INPUT: true; the input reads as it did. -/
def countsPartsSpec : ChangeSpec := { name := "countsParts", fn := fun _ => fun
  | [d1, d2, d3] => { results := [.lit (.bool true)], args := [d1, d2, d3] }
  | _ => none }
def countsPartsRow : OpenClaim := { program := "ytljkneajdndgjaa", sum := "da5fc985fba4ff374bae4534e649a7705ceff7bab5141332e3365dc1630f9371", func := "rescind/rescindlaw29.CountsParts", spec := "countsParts", unfollowed := true, recurses := true, apart := false }
def CountsPartsSaid : Prop := countsPartsRow.holds Try.pinned (OpenSpec.ofChange countsPartsSpec)

/-- ITS FALSE NEIGHBOUR: 'it returns false'. Refute it at one input. -/
def countsPartsWrong : ChangeSpec := { name := "countsParts", fn := fun _ => fun
  | [d1, d2, d3] => { results := [.lit (.bool false)], args := [d1, d2, d3] }
  | _ => none }
def CountsPartsWrongFalsely : Prop := countsPartsRow.holds Try.pinned (OpenSpec.ofChange countsPartsWrong)

/-- 'rescindlaw29.CountsSettles': WHATEVER THE INPUT: true; the input reads as it did. -/
def countsSettlesSpec : ChangeSpec := { name := "countsSettles", fn := fun _ => fun
  | [d1, d2, d3, d4] => { results := [.lit (.bool true)], args := [d1, d2, d3, d4] }
  | _ => none }
def countsSettlesRow : OpenClaim := { program := "ytljkneajdndgjaa", sum := "da5fc985fba4ff374bae4534e649a7705ceff7bab5141332e3365dc1630f9371", func := "rescind/rescindlaw29.CountsSettles", spec := "countsSettles", unfollowed := true, recurses := true, apart := false }
def CountsSettlesSaid : Prop := countsSettlesRow.holds Try.pinned (OpenSpec.ofChange countsSettlesSpec)

/-- ITS FALSE NEIGHBOUR: 'it returns false'. Refute it at one input. -/
def countsSettlesWrong : ChangeSpec := { name := "countsSettles", fn := fun _ => fun
  | [d1, d2, d3, d4] => { results := [.lit (.bool false)], args := [d1, d2, d3, d4] }
  | _ => none }
def CountsSettlesWrongFalsely : Prop := countsSettlesRow.holds Try.pinned (OpenSpec.ofChange countsSettlesWrong)

/-- 'rescindlaw29.CountsForgets': WHATEVER THE INPUT: true; the input reads as it did. -/
def countsForgetsSpec : ChangeSpec := { name := "countsForgets", fn := fun _ => fun
  | [d1, d2, d3] => { results := [.lit (.bool true)], args := [d1, d2, d3] }
  | _ => none }
def countsForgetsRow : OpenClaim := { program := "ytljkneajdndgjaa", sum := "da5fc985fba4ff374bae4534e649a7705ceff7bab5141332e3365dc1630f9371", func := "rescind/rescindlaw29.CountsForgets", spec := "countsForgets", unfollowed := true, recurses := true, apart := false }
def CountsForgetsSaid : Prop := countsForgetsRow.holds Try.pinned (OpenSpec.ofChange countsForgetsSpec)

/-- ITS FALSE NEIGHBOUR: 'it returns false'. Refute it at one input. -/
def countsForgetsWrong : ChangeSpec := { name := "countsForgets", fn := fun _ => fun
  | [d1, d2, d3] => { results := [.lit (.bool false)], args := [d1, d2, d3] }
  | _ => none }
def CountsForgetsWrongFalsely : Prop := countsForgetsRow.holds Try.pinned (OpenSpec.ofChange countsForgetsWrong)

/- THE SECOND FORM. 'bulk': how many values and letters a reading holds, each counted each time it is reached (what is shared counts as often as it is met; a slice's spare places count too). A statement '..UptoSaid' is the law's where the arguments, and the package variables that the reading takes, are together of bulk at most 1048576: NARROWER than '..Said'. Prove '..Said' where nothing that the law and all that it calls make is longer than what came in: it says more and counts as full. Else prove '..UptoSaid'. A law counts once. -/
mutual
def uptoBulk {H : Type} : DataW H → Nat
  | .lit (.string bytes) => bytes.length + 1
  | .lit _ => 1
  | .nil => 1
  | .ptr d => uptoBulk d + 1
  | .slice elems spare => uptoBulkAll elems + uptoBulkAll spare + 1
  | .agg parts => uptoBulkAll parts + 1
  | .iface _ d => uptoBulk d + 1
  | .map entries => uptoBulkEntries entries + 1
  | .held _ => 1
def uptoBulkAll {H : Type} : List (DataW H) → Nat
  | [] => 0
  | d :: r => uptoBulk d + uptoBulkAll r
def uptoBulkEntries {H : Type} : List (Lit × DataW H) → Nat
  | [] => 0
  | x :: r => uptoBulkEntry x + uptoBulkEntries r
def uptoBulkEntry {H : Type} : Lit × DataW H → Nat
  | (.string bytes, d) => bytes.length + uptoBulk d + 1
  | (_, d) => uptoBulk d + 1
 end
def uptoSmall : (H : Type) → List (DataW H) → Bool := fun _ ds => decide (uptoBulkAll ds ≤ 1048576)
def OpenSpec.upto (s : _root_.Go.ChangeSpec) : _root_.Go.OpenSpec := { _root_.Go.OpenSpec.ofChange s with cond := some uptoSmall }

/-- 'rescindlaw29.CountsStarts', WHERE WHAT IT READS IS OF BULK AT MOST 1048576: true; the input reads as it did. -/
def countsStartsUptoRow : OpenClaim := { program := "ytljkneajdndgjaa", sum := "da5fc985fba4ff374bae4534e649a7705ceff7bab5141332e3365dc1630f9371", func := "rescind/rescindlaw29.CountsStarts", spec := "countsStarts", unfollowed := true, recurses := true, apart := false, narrowed := true }
def CountsStartsUptoSaid : Prop := countsStartsUptoRow.holds Try.pinned (OpenSpec.upto countsStartsSpec)

/-- 'rescindlaw29.CountsParts', WHERE WHAT IT READS IS OF BULK AT MOST 1048576: true; the input reads as it did. -/
def countsPartsUptoRow : OpenClaim := { program := "ytljkneajdndgjaa", sum := "da5fc985fba4ff374bae4534e649a7705ceff7bab5141332e3365dc1630f9371", func := "rescind/rescindlaw29.CountsParts", spec := "countsParts", unfollowed := true, recurses := true, apart := false, narrowed := true }
def CountsPartsUptoSaid : Prop := countsPartsUptoRow.holds Try.pinned (OpenSpec.upto countsPartsSpec)

/-- 'rescindlaw29.CountsSettles', WHERE WHAT IT READS IS OF BULK AT MOST 1048576: true; the input reads as it did. -/
def countsSettlesUptoRow : OpenClaim := { program := "ytljkneajdndgjaa", sum := "da5fc985fba4ff374bae4534e649a7705ceff7bab5141332e3365dc1630f9371", func := "rescind/rescindlaw29.CountsSettles", spec := "countsSettles", unfollowed := true, recurses := true, apart := false, narrowed := true }
def CountsSettlesUptoSaid : Prop := countsSettlesUptoRow.holds Try.pinned (OpenSpec.upto countsSettlesSpec)

/-- 'rescindlaw29.CountsForgets', WHERE WHAT IT READS IS OF BULK AT MOST 1048576: true; the input reads as it did. -/
def countsForgetsUptoRow : OpenClaim := { program := "ytljkneajdndgjaa", sum := "da5fc985fba4ff374bae4534e649a7705ceff7bab5141332e3365dc1630f9371", func := "rescind/rescindlaw29.CountsForgets", spec := "countsForgets", unfollowed := true, recurses := true, apart := false, narrowed := true }
def CountsForgetsUptoSaid : Prop := countsForgetsUptoRow.holds Try.pinned (OpenSpec.upto countsForgetsSpec)

end Rows
end Go.Proofs.Ytljkneajdndgjaa
