/-
  No cell of these rows narrows 'for every input' (looked for: loops, veiled, ifaces, maps, wideKeys, modest, calm, conditions, laid).
  DERIVED. THE GIVEN ROWS OF THIS SEAT. 8 by the template 'for every input the law returns true; each argument reads behind the call as it read before'; 0 by the template 'total and deterministic' (their statements: YtljkneajdndgjabGreatTotals.lean).
  GIVEN WITH THE SEED: the statements are not yours to turn. If you find one false, say at which input.
  Laid BY PROGRAM, IN A SANDBOX (cutbox-rows.mjs): the forced cells as the released guide's own fill.sh prints them over the translation f00e6ce554304e5b… (all of the seat's roots in one cut). By AI agents, Wed Nov 11 2026. No macro, syntax, notation, axiom, sorry.
-/
import Derived.Test.YtljkneajdndgjabGreatChecked
import GoSem.Claim
import GoSem.ClaimJoined
import GoSem.ClaimMapViews
import Derived.JoinedTies
import Derived.KernelRfl
namespace Go.Proofs.YtljkneajdndgjabGreat
/- THE CELL 'sum', in the pinned program and in every row, IS THE sha256 OF THE DUMP (.gsa) THAT YtljkneajdndgjabGreatProg.lean LOADS. Nothing in Lean hashes anything: it is a label: what it is worth is what the hold of that sum in a sandbox is worth. -/
noncomputable def Tryz.pinned : Pinned := { name := "ytljkneajdndgjabgreat", sum := "f00e6ce554304e5b6f9eb3a7d981eed37a55aeb95346cf9acd84101309f3162e", checked := Tryz.checked }
namespace Rows
def none {H : Type} : Left H := { results := [], args := [] }

/-- 'rescindlaw31.JoinPairs': WHATEVER THE INPUT: true; the input reads as it did. -/
def joinPairsSpec : ChangeSpec := { name := "joinPairs", fn := fun _ => fun
  | [d1, d2, d3] => { results := [.lit (.bool true)], args := [d1, d2, d3] }
  | _ => none }
def joinPairsRow : OpenClaim := { program := "ytljkneajdndgjabgreat", sum := "f00e6ce554304e5b6f9eb3a7d981eed37a55aeb95346cf9acd84101309f3162e", func := "rescind/rescindlaw31.JoinPairs", spec := "joinPairs", unfollowed := true, recurses := true, apart := false }
def JoinPairsSaid : Prop := joinPairsRow.holds Tryz.pinned (OpenSpec.ofChange joinPairsSpec)

/-- ITS FALSE NEIGHBOUR: 'it returns false'. Refute it at one input. -/
def joinPairsWrong : ChangeSpec := { name := "joinPairs", fn := fun _ => fun
  | [d1, d2, d3] => { results := [.lit (.bool false)], args := [d1, d2, d3] }
  | _ => none }
def JoinPairsWrongFalsely : Prop := joinPairsRow.holds Tryz.pinned (OpenSpec.ofChange joinPairsWrong)

/-- 'rescindlaw31.JoinTicks': WHATEVER THE INPUT: true; the input reads as it did. -/
def joinTicksSpec : ChangeSpec := { name := "joinTicks", fn := fun _ => fun
  | [d1, d2, d3, d4] => { results := [.lit (.bool true)], args := [d1, d2, d3, d4] }
  | _ => none }
def joinTicksRow : OpenClaim := { program := "ytljkneajdndgjabgreat", sum := "f00e6ce554304e5b6f9eb3a7d981eed37a55aeb95346cf9acd84101309f3162e", func := "rescind/rescindlaw31.JoinTicks", spec := "joinTicks", unfollowed := true, recurses := true, apart := false }
def JoinTicksSaid : Prop := joinTicksRow.holds Tryz.pinned (OpenSpec.ofChange joinTicksSpec)

/-- ITS FALSE NEIGHBOUR: 'it returns false'. Refute it at one input. -/
def joinTicksWrong : ChangeSpec := { name := "joinTicks", fn := fun _ => fun
  | [d1, d2, d3, d4] => { results := [.lit (.bool false)], args := [d1, d2, d3, d4] }
  | _ => none }
def JoinTicksWrongFalsely : Prop := joinTicksRow.holds Tryz.pinned (OpenSpec.ofChange joinTicksWrong)

/-- 'rescindlaw31.JoinSums': WHATEVER THE INPUT: true; the input reads as it did. -/
def joinSumsSpec : ChangeSpec := { name := "joinSums", fn := fun _ => fun
  | [d1, d2, d3, d4] => { results := [.lit (.bool true)], args := [d1, d2, d3, d4] }
  | _ => none }
def joinSumsRow : OpenClaim := { program := "ytljkneajdndgjabgreat", sum := "f00e6ce554304e5b6f9eb3a7d981eed37a55aeb95346cf9acd84101309f3162e", func := "rescind/rescindlaw31.JoinSums", spec := "joinSums", unfollowed := true, recurses := true, apart := false }
def JoinSumsSaid : Prop := joinSumsRow.holds Tryz.pinned (OpenSpec.ofChange joinSumsSpec)

/-- ITS FALSE NEIGHBOUR: 'it returns false'. Refute it at one input. -/
def joinSumsWrong : ChangeSpec := { name := "joinSums", fn := fun _ => fun
  | [d1, d2, d3, d4] => { results := [.lit (.bool false)], args := [d1, d2, d3, d4] }
  | _ => none }
def JoinSumsWrongFalsely : Prop := joinSumsRow.holds Tryz.pinned (OpenSpec.ofChange joinSumsWrong)

/-- 'rescindlaw31.JoinAhead': WHATEVER THE INPUT: true; the input reads as it did. -/
def joinAheadSpec : ChangeSpec := { name := "joinAhead", fn := fun _ => fun
  | [d1, d2, d3, d4] => { results := [.lit (.bool true)], args := [d1, d2, d3, d4] }
  | _ => none }
def joinAheadRow : OpenClaim := { program := "ytljkneajdndgjabgreat", sum := "f00e6ce554304e5b6f9eb3a7d981eed37a55aeb95346cf9acd84101309f3162e", func := "rescind/rescindlaw31.JoinAhead", spec := "joinAhead", unfollowed := true, recurses := true, apart := false }
def JoinAheadSaid : Prop := joinAheadRow.holds Tryz.pinned (OpenSpec.ofChange joinAheadSpec)

/-- ITS FALSE NEIGHBOUR: 'it returns false'. Refute it at one input. -/
def joinAheadWrong : ChangeSpec := { name := "joinAhead", fn := fun _ => fun
  | [d1, d2, d3, d4] => { results := [.lit (.bool false)], args := [d1, d2, d3, d4] }
  | _ => none }
def JoinAheadWrongFalsely : Prop := joinAheadRow.holds Tryz.pinned (OpenSpec.ofChange joinAheadWrong)

/-- 'rescindlaw32.AntiPartners': WHATEVER THE INPUT: true; the input reads as it did. -/
def antiPartnersSpec : ChangeSpec := { name := "antiPartners", fn := fun _ => fun
  | [d1, d2, d3, d4] => { results := [.lit (.bool true)], args := [d1, d2, d3, d4] }
  | _ => none }
def antiPartnersRow : OpenClaim := { program := "ytljkneajdndgjabgreat", sum := "f00e6ce554304e5b6f9eb3a7d981eed37a55aeb95346cf9acd84101309f3162e", func := "rescind/rescindlaw32.AntiPartners", spec := "antiPartners", unfollowed := true, recurses := true, apart := false }
def AntiPartnersSaid : Prop := antiPartnersRow.holds Tryz.pinned (OpenSpec.ofChange antiPartnersSpec)

/-- ITS FALSE NEIGHBOUR: 'it returns false'. Refute it at one input. -/
def antiPartnersWrong : ChangeSpec := { name := "antiPartners", fn := fun _ => fun
  | [d1, d2, d3, d4] => { results := [.lit (.bool false)], args := [d1, d2, d3, d4] }
  | _ => none }
def AntiPartnersWrongFalsely : Prop := antiPartnersRow.holds Tryz.pinned (OpenSpec.ofChange antiPartnersWrong)

/-- 'rescindlaw32.AntiAlone': WHATEVER THE INPUT: true; the input reads as it did. -/
def antiAloneSpec : ChangeSpec := { name := "antiAlone", fn := fun _ => fun
  | [d1, d2, d3] => { results := [.lit (.bool true)], args := [d1, d2, d3] }
  | _ => none }
def antiAloneRow : OpenClaim := { program := "ytljkneajdndgjabgreat", sum := "f00e6ce554304e5b6f9eb3a7d981eed37a55aeb95346cf9acd84101309f3162e", func := "rescind/rescindlaw32.AntiAlone", spec := "antiAlone", unfollowed := true, recurses := true, apart := false }
def AntiAloneSaid : Prop := antiAloneRow.holds Tryz.pinned (OpenSpec.ofChange antiAloneSpec)

/-- ITS FALSE NEIGHBOUR: 'it returns false'. Refute it at one input. -/
def antiAloneWrong : ChangeSpec := { name := "antiAlone", fn := fun _ => fun
  | [d1, d2, d3] => { results := [.lit (.bool false)], args := [d1, d2, d3] }
  | _ => none }
def AntiAloneWrongFalsely : Prop := antiAloneRow.holds Tryz.pinned (OpenSpec.ofChange antiAloneWrong)

/-- 'rescindlaw32.AntiTicks': WHATEVER THE INPUT: true; the input reads as it did. -/
def antiTicksSpec : ChangeSpec := { name := "antiTicks", fn := fun _ => fun
  | [d1, d2, d3, d4] => { results := [.lit (.bool true)], args := [d1, d2, d3, d4] }
  | _ => none }
def antiTicksRow : OpenClaim := { program := "ytljkneajdndgjabgreat", sum := "f00e6ce554304e5b6f9eb3a7d981eed37a55aeb95346cf9acd84101309f3162e", func := "rescind/rescindlaw32.AntiTicks", spec := "antiTicks", unfollowed := true, recurses := true, apart := false }
def AntiTicksSaid : Prop := antiTicksRow.holds Tryz.pinned (OpenSpec.ofChange antiTicksSpec)

/-- ITS FALSE NEIGHBOUR: 'it returns false'. Refute it at one input. -/
def antiTicksWrong : ChangeSpec := { name := "antiTicks", fn := fun _ => fun
  | [d1, d2, d3, d4] => { results := [.lit (.bool false)], args := [d1, d2, d3, d4] }
  | _ => none }
def AntiTicksWrongFalsely : Prop := antiTicksRow.holds Tryz.pinned (OpenSpec.ofChange antiTicksWrong)

/-- 'rescindlaw32.AntiAhead': WHATEVER THE INPUT: true; the input reads as it did. -/
def antiAheadSpec : ChangeSpec := { name := "antiAhead", fn := fun _ => fun
  | [d1, d2, d3, d4] => { results := [.lit (.bool true)], args := [d1, d2, d3, d4] }
  | _ => none }
def antiAheadRow : OpenClaim := { program := "ytljkneajdndgjabgreat", sum := "f00e6ce554304e5b6f9eb3a7d981eed37a55aeb95346cf9acd84101309f3162e", func := "rescind/rescindlaw32.AntiAhead", spec := "antiAhead", unfollowed := true, recurses := true, apart := false }
def AntiAheadSaid : Prop := antiAheadRow.holds Tryz.pinned (OpenSpec.ofChange antiAheadSpec)

/-- ITS FALSE NEIGHBOUR: 'it returns false'. Refute it at one input. -/
def antiAheadWrong : ChangeSpec := { name := "antiAhead", fn := fun _ => fun
  | [d1, d2, d3, d4] => { results := [.lit (.bool false)], args := [d1, d2, d3, d4] }
  | _ => none }
def AntiAheadWrongFalsely : Prop := antiAheadRow.holds Tryz.pinned (OpenSpec.ofChange antiAheadWrong)

/- THE SECOND FORM. 'bulk': how many values and letters a reading holds, each counted each time it is reached (what is shared counts as often as it is met; a slice's spare places count too). A statement '..UptoSaid' is the law's where the arguments, and the package variables that the reading takes, are together of bulk at most 1048576: NARROWER than '..Said'. Prove '..Said' where nothing that the law and all that it calls make is longer than what came in: it says more and counts as full. Else prove '..UptoSaid'. A law counts once. -/
mutual
def uptoBulk {H : Type} : DataW H → Nat
  | .lit (.string bytes) => bytes.length + 1
  | .lit _ => 1
  | .nil => 1
  | .ptr d => uptoBulk d + 1
  | .slice elems spare => uptoBulkAll elems + uptoBulkAll spare + 1
  | .agg parts => uptoBulkAll parts + 1
  | .iface _ d => uptoBulk d + 1
  | .map entries => uptoBulkEntries entries + 1
  | .held _ => 1
def uptoBulkAll {H : Type} : List (DataW H) → Nat
  | [] => 0
  | d :: r => uptoBulk d + uptoBulkAll r
def uptoBulkEntries {H : Type} : List (Lit × DataW H) → Nat
  | [] => 0
  | x :: r => uptoBulkEntry x + uptoBulkEntries r
def uptoBulkEntry {H : Type} : Lit × DataW H → Nat
  | (.string bytes, d) => bytes.length + uptoBulk d + 1
  | (_, d) => uptoBulk d + 1
 end
def uptoSmall : (H : Type) → List (DataW H) → Bool := fun _ ds => decide (uptoBulkAll ds ≤ 1048576)
def OpenSpec.upto (s : _root_.Go.ChangeSpec) : _root_.Go.OpenSpec := { _root_.Go.OpenSpec.ofChange s with cond := some uptoSmall }

/-- 'rescindlaw31.JoinPairs', WHERE WHAT IT READS IS OF BULK AT MOST 1048576: true; the input reads as it did. -/
def joinPairsUptoRow : OpenClaim := { program := "ytljkneajdndgjabgreat", sum := "f00e6ce554304e5b6f9eb3a7d981eed37a55aeb95346cf9acd84101309f3162e", func := "rescind/rescindlaw31.JoinPairs", spec := "joinPairs", unfollowed := true, recurses := true, apart := false, narrowed := true }
def JoinPairsUptoSaid : Prop := joinPairsUptoRow.holds Tryz.pinned (OpenSpec.upto joinPairsSpec)

/-- 'rescindlaw31.JoinTicks', WHERE WHAT IT READS IS OF BULK AT MOST 1048576: true; the input reads as it did. -/
def joinTicksUptoRow : OpenClaim := { program := "ytljkneajdndgjabgreat", sum := "f00e6ce554304e5b6f9eb3a7d981eed37a55aeb95346cf9acd84101309f3162e", func := "rescind/rescindlaw31.JoinTicks", spec := "joinTicks", unfollowed := true, recurses := true, apart := false, narrowed := true }
def JoinTicksUptoSaid : Prop := joinTicksUptoRow.holds Tryz.pinned (OpenSpec.upto joinTicksSpec)

/-- 'rescindlaw31.JoinSums', WHERE WHAT IT READS IS OF BULK AT MOST 1048576: true; the input reads as it did. -/
def joinSumsUptoRow : OpenClaim := { program := "ytljkneajdndgjabgreat", sum := "f00e6ce554304e5b6f9eb3a7d981eed37a55aeb95346cf9acd84101309f3162e", func := "rescind/rescindlaw31.JoinSums", spec := "joinSums", unfollowed := true, recurses := true, apart := false, narrowed := true }
def JoinSumsUptoSaid : Prop := joinSumsUptoRow.holds Tryz.pinned (OpenSpec.upto joinSumsSpec)

/-- 'rescindlaw31.JoinAhead', WHERE WHAT IT READS IS OF BULK AT MOST 1048576: true; the input reads as it did. -/
def joinAheadUptoRow : OpenClaim := { program := "ytljkneajdndgjabgreat", sum := "f00e6ce554304e5b6f9eb3a7d981eed37a55aeb95346cf9acd84101309f3162e", func := "rescind/rescindlaw31.JoinAhead", spec := "joinAhead", unfollowed := true, recurses := true, apart := false, narrowed := true }
def JoinAheadUptoSaid : Prop := joinAheadUptoRow.holds Tryz.pinned (OpenSpec.upto joinAheadSpec)

/-- 'rescindlaw32.AntiPartners', WHERE WHAT IT READS IS OF BULK AT MOST 1048576: true; the input reads as it did. -/
def antiPartnersUptoRow : OpenClaim := { program := "ytljkneajdndgjabgreat", sum := "f00e6ce554304e5b6f9eb3a7d981eed37a55aeb95346cf9acd84101309f3162e", func := "rescind/rescindlaw32.AntiPartners", spec := "antiPartners", unfollowed := true, recurses := true, apart := false, narrowed := true }
def AntiPartnersUptoSaid : Prop := antiPartnersUptoRow.holds Tryz.pinned (OpenSpec.upto antiPartnersSpec)

/-- 'rescindlaw32.AntiAlone', WHERE WHAT IT READS IS OF BULK AT MOST 1048576: true; the input reads as it did. -/
def antiAloneUptoRow : OpenClaim := { program := "ytljkneajdndgjabgreat", sum := "f00e6ce554304e5b6f9eb3a7d981eed37a55aeb95346cf9acd84101309f3162e", func := "rescind/rescindlaw32.AntiAlone", spec := "antiAlone", unfollowed := true, recurses := true, apart := false, narrowed := true }
def AntiAloneUptoSaid : Prop := antiAloneUptoRow.holds Tryz.pinned (OpenSpec.upto antiAloneSpec)

/-- 'rescindlaw32.AntiTicks', WHERE WHAT IT READS IS OF BULK AT MOST 1048576: true; the input reads as it did. -/
def antiTicksUptoRow : OpenClaim := { program := "ytljkneajdndgjabgreat", sum := "f00e6ce554304e5b6f9eb3a7d981eed37a55aeb95346cf9acd84101309f3162e", func := "rescind/rescindlaw32.AntiTicks", spec := "antiTicks", unfollowed := true, recurses := true, apart := false, narrowed := true }
def AntiTicksUptoSaid : Prop := antiTicksUptoRow.holds Tryz.pinned (OpenSpec.upto antiTicksSpec)

/-- 'rescindlaw32.AntiAhead', WHERE WHAT IT READS IS OF BULK AT MOST 1048576: true; the input reads as it did. -/
def antiAheadUptoRow : OpenClaim := { program := "ytljkneajdndgjabgreat", sum := "f00e6ce554304e5b6f9eb3a7d981eed37a55aeb95346cf9acd84101309f3162e", func := "rescind/rescindlaw32.AntiAhead", spec := "antiAhead", unfollowed := true, recurses := true, apart := false, narrowed := true }
def AntiAheadUptoSaid : Prop := antiAheadUptoRow.holds Tryz.pinned (OpenSpec.upto antiAheadSpec)

end Rows
end Go.Proofs.YtljkneajdndgjabGreat
