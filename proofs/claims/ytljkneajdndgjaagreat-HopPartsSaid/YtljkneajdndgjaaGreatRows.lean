/-
  No cell of these rows narrows 'for every input' (looked for: loops, veiled, ifaces, maps, wideKeys, modest, calm, conditions, laid).
  DERIVED. THE GIVEN ROWS OF THIS SEAT. 7 by the template 'for every input the law returns true; each argument reads behind the call as it read before'; 0 by the template 'total and deterministic' (their statements: YtljkneajdndgjaaGreatTotals.lean).
  GIVEN WITH THE SEED: the statements are not yours to turn. If you find one false, say at which input.
  Laid BY PROGRAM, IN A SANDBOX (cutbox-rows.mjs): the forced cells as the released guide's own fill.sh prints them over the translation 9b66e7724e6be578… (all of the seat's roots in one cut). By AI agents, Wed Nov 11 2026. No macro, syntax, notation, axiom, sorry.
-/
import Derived.Test.YtljkneajdndgjaaGreatChecked
import GoSem.Claim
import GoSem.ClaimJoined
import GoSem.ClaimMapViews
import Derived.JoinedTies
import Derived.KernelRfl
namespace Go.Proofs.YtljkneajdndgjaaGreat
/- THE CELL 'sum', in the pinned program and in every row, IS THE sha256 OF THE DUMP (.gsa) THAT YtljkneajdndgjaaGreatProg.lean LOADS. Nothing in Lean hashes anything: it is a label: what it is worth is what the hold of that sum in a sandbox is worth. -/
noncomputable def Tryz.pinned : Pinned := { name := "ytljkneajdndgjaagreat", sum := "9b66e7724e6be578fc2ef30fffdf9ce649a2cde9009ee87dd2b4e156210e15e7", checked := Tryz.checked }
namespace Rows
def none {H : Type} : Left H := { results := [], args := [] }

/-- 'rescindlaw30.WindowClocks': WHATEVER THE INPUT: true; the input reads as it did. -/
def windowClocksSpec : ChangeSpec := { name := "windowClocks", fn := fun _ => fun
  | [d1, d2, d3] => { results := [.lit (.bool true)], args := [d1, d2, d3] }
  | _ => none }
def windowClocksRow : OpenClaim := { program := "ytljkneajdndgjaagreat", sum := "9b66e7724e6be578fc2ef30fffdf9ce649a2cde9009ee87dd2b4e156210e15e7", func := "rescind/rescindlaw30.WindowClocks", spec := "windowClocks", unfollowed := true, recurses := true, apart := false }
def WindowClocksSaid : Prop := windowClocksRow.holds Tryz.pinned (OpenSpec.ofChange windowClocksSpec)

/-- ITS FALSE NEIGHBOUR: 'it returns false'. Refute it at one input. -/
def windowClocksWrong : ChangeSpec := { name := "windowClocks", fn := fun _ => fun
  | [d1, d2, d3] => { results := [.lit (.bool false)], args := [d1, d2, d3] }
  | _ => none }
def WindowClocksWrongFalsely : Prop := windowClocksRow.holds Tryz.pinned (OpenSpec.ofChange windowClocksWrong)

/-- 'rescindlaw30.WindowParts': WHATEVER THE INPUT: true; the input reads as it did. -/
def windowPartsSpec : ChangeSpec := { name := "windowParts", fn := fun _ => fun
  | [d1, d2, d3, d4] => { results := [.lit (.bool true)], args := [d1, d2, d3, d4] }
  | _ => none }
def windowPartsRow : OpenClaim := { program := "ytljkneajdndgjaagreat", sum := "9b66e7724e6be578fc2ef30fffdf9ce649a2cde9009ee87dd2b4e156210e15e7", func := "rescind/rescindlaw30.WindowParts", spec := "windowParts", unfollowed := true, recurses := true, apart := false }
def WindowPartsSaid : Prop := windowPartsRow.holds Tryz.pinned (OpenSpec.ofChange windowPartsSpec)

/-- ITS FALSE NEIGHBOUR: 'it returns false'. Refute it at one input. -/
def windowPartsWrong : ChangeSpec := { name := "windowParts", fn := fun _ => fun
  | [d1, d2, d3, d4] => { results := [.lit (.bool false)], args := [d1, d2, d3, d4] }
  | _ => none }
def WindowPartsWrongFalsely : Prop := windowPartsRow.holds Tryz.pinned (OpenSpec.ofChange windowPartsWrong)

/-- 'rescindlaw30.WindowSettles': WHATEVER THE INPUT: true; the input reads as it did. -/
def windowSettlesSpec : ChangeSpec := { name := "windowSettles", fn := fun _ => fun
  | [d1, d2, d3, d4] => { results := [.lit (.bool true)], args := [d1, d2, d3, d4] }
  | _ => none }
def windowSettlesRow : OpenClaim := { program := "ytljkneajdndgjaagreat", sum := "9b66e7724e6be578fc2ef30fffdf9ce649a2cde9009ee87dd2b4e156210e15e7", func := "rescind/rescindlaw30.WindowSettles", spec := "windowSettles", unfollowed := true, recurses := true, apart := false }
def WindowSettlesSaid : Prop := windowSettlesRow.holds Tryz.pinned (OpenSpec.ofChange windowSettlesSpec)

/-- ITS FALSE NEIGHBOUR: 'it returns false'. Refute it at one input. -/
def windowSettlesWrong : ChangeSpec := { name := "windowSettles", fn := fun _ => fun
  | [d1, d2, d3, d4] => { results := [.lit (.bool false)], args := [d1, d2, d3, d4] }
  | _ => none }
def WindowSettlesWrongFalsely : Prop := windowSettlesRow.holds Tryz.pinned (OpenSpec.ofChange windowSettlesWrong)

/-- 'rescindlaw30.WindowForgets': WHATEVER THE INPUT: true; the input reads as it did. -/
def windowForgetsSpec : ChangeSpec := { name := "windowForgets", fn := fun _ => fun
  | [d1, d2, d3] => { results := [.lit (.bool true)], args := [d1, d2, d3] }
  | _ => none }
def windowForgetsRow : OpenClaim := { program := "ytljkneajdndgjaagreat", sum := "9b66e7724e6be578fc2ef30fffdf9ce649a2cde9009ee87dd2b4e156210e15e7", func := "rescind/rescindlaw30.WindowForgets", spec := "windowForgets", unfollowed := true, recurses := true, apart := false }
def WindowForgetsSaid : Prop := windowForgetsRow.holds Tryz.pinned (OpenSpec.ofChange windowForgetsSpec)

/-- ITS FALSE NEIGHBOUR: 'it returns false'. Refute it at one input. -/
def windowForgetsWrong : ChangeSpec := { name := "windowForgets", fn := fun _ => fun
  | [d1, d2, d3] => { results := [.lit (.bool false)], args := [d1, d2, d3] }
  | _ => none }
def WindowForgetsWrongFalsely : Prop := windowForgetsRow.holds Tryz.pinned (OpenSpec.ofChange windowForgetsWrong)

/-- 'rescindlaw30.WindowRises': WHATEVER THE INPUT: true; the input reads as it did. -/
def windowRisesSpec : ChangeSpec := { name := "windowRises", fn := fun _ => fun
  | [d1, d2, d3, d4, d5] => { results := [.lit (.bool true)], args := [d1, d2, d3, d4, d5] }
  | _ => none }
def windowRisesRow : OpenClaim := { program := "ytljkneajdndgjaagreat", sum := "9b66e7724e6be578fc2ef30fffdf9ce649a2cde9009ee87dd2b4e156210e15e7", func := "rescind/rescindlaw30.WindowRises", spec := "windowRises", unfollowed := true, recurses := true, apart := false }
def WindowRisesSaid : Prop := windowRisesRow.holds Tryz.pinned (OpenSpec.ofChange windowRisesSpec)

/-- ITS FALSE NEIGHBOUR: 'it returns false'. Refute it at one input. -/
def windowRisesWrong : ChangeSpec := { name := "windowRises", fn := fun _ => fun
  | [d1, d2, d3, d4, d5] => { results := [.lit (.bool false)], args := [d1, d2, d3, d4, d5] }
  | _ => none }
def WindowRisesWrongFalsely : Prop := windowRisesRow.holds Tryz.pinned (OpenSpec.ofChange windowRisesWrong)

/-- 'rescindlaw28.HopParts': WHATEVER THE INPUT: true; the input reads as it did. -/
def hopPartsSpec : ChangeSpec := { name := "hopParts", fn := fun _ => fun
  | [d1, d2, d3, d4, d5] => { results := [.lit (.bool true)], args := [d1, d2, d3, d4, d5] }
  | _ => none }
def hopPartsRow : OpenClaim := { program := "ytljkneajdndgjaagreat", sum := "9b66e7724e6be578fc2ef30fffdf9ce649a2cde9009ee87dd2b4e156210e15e7", func := "rescind/rescindlaw28.HopParts", spec := "hopParts", unfollowed := true, recurses := true, apart := false }
def HopPartsSaid : Prop := hopPartsRow.holds Tryz.pinned (OpenSpec.ofChange hopPartsSpec)

/-- ITS FALSE NEIGHBOUR: 'it returns false'. Refute it at one input. -/
def hopPartsWrong : ChangeSpec := { name := "hopParts", fn := fun _ => fun
  | [d1, d2, d3, d4, d5] => { results := [.lit (.bool false)], args := [d1, d2, d3, d4, d5] }
  | _ => none }
def HopPartsWrongFalsely : Prop := hopPartsRow.holds Tryz.pinned (OpenSpec.ofChange hopPartsWrong)

/-- 'rescindlaw27.SnapBack': WHATEVER THE INPUT: true; the input reads as it did. -/
def snapBackSpec : ChangeSpec := { name := "snapBack", fn := fun _ => fun
  | [d1, d2] => { results := [.lit (.bool true)], args := [d1, d2] }
  | _ => none }
def snapBackRow : OpenClaim := { program := "ytljkneajdndgjaagreat", sum := "9b66e7724e6be578fc2ef30fffdf9ce649a2cde9009ee87dd2b4e156210e15e7", func := "rescind/rescindlaw27.SnapBack", spec := "snapBack", unfollowed := true, recurses := true, apart := false }
def SnapBackSaid : Prop := snapBackRow.holds Tryz.pinned (OpenSpec.ofChange snapBackSpec)

/-- ITS FALSE NEIGHBOUR: 'it returns false'. Refute it at one input. -/
def snapBackWrong : ChangeSpec := { name := "snapBack", fn := fun _ => fun
  | [d1, d2] => { results := [.lit (.bool false)], args := [d1, d2] }
  | _ => none }
def SnapBackWrongFalsely : Prop := snapBackRow.holds Tryz.pinned (OpenSpec.ofChange snapBackWrong)

/- THE SECOND FORM. 'bulk': how many values and letters a reading holds, each counted each time it is reached (what is shared counts as often as it is met; a slice's spare places count too). A statement '..UptoSaid' is the law's where the arguments, and the package variables that the reading takes, are together of bulk at most 1048576: NARROWER than '..Said'. Prove '..Said' where nothing that the law and all that it calls make is longer than what came in: it says more and counts as full. Else prove '..UptoSaid'. A law counts once. -/
mutual
def uptoBulk {H : Type} : DataW H → Nat
  | .lit (.string bytes) => bytes.length + 1
  | .lit _ => 1
  | .nil => 1
  | .ptr d => uptoBulk d + 1
  | .slice elems spare => uptoBulkAll elems + uptoBulkAll spare + 1
  | .agg parts => uptoBulkAll parts + 1
  | .iface _ d => uptoBulk d + 1
  | .map entries => uptoBulkEntries entries + 1
  | .held _ => 1
def uptoBulkAll {H : Type} : List (DataW H) → Nat
  | [] => 0
  | d :: r => uptoBulk d + uptoBulkAll r
def uptoBulkEntries {H : Type} : List (Lit × DataW H) → Nat
  | [] => 0
  | x :: r => uptoBulkEntry x + uptoBulkEntries r
def uptoBulkEntry {H : Type} : Lit × DataW H → Nat
  | (.string bytes, d) => bytes.length + uptoBulk d + 1
  | (_, d) => uptoBulk d + 1
 end
def uptoSmall : (H : Type) → List (DataW H) → Bool := fun _ ds => decide (uptoBulkAll ds ≤ 1048576)
def OpenSpec.upto (s : _root_.Go.ChangeSpec) : _root_.Go.OpenSpec := { _root_.Go.OpenSpec.ofChange s with cond := some uptoSmall }

/-- 'rescindlaw30.WindowClocks', WHERE WHAT IT READS IS OF BULK AT MOST 1048576: true; the input reads as it did. -/
def windowClocksUptoRow : OpenClaim := { program := "ytljkneajdndgjaagreat", sum := "9b66e7724e6be578fc2ef30fffdf9ce649a2cde9009ee87dd2b4e156210e15e7", func := "rescind/rescindlaw30.WindowClocks", spec := "windowClocks", unfollowed := true, recurses := true, apart := false, narrowed := true }
def WindowClocksUptoSaid : Prop := windowClocksUptoRow.holds Tryz.pinned (OpenSpec.upto windowClocksSpec)

/-- 'rescindlaw30.WindowParts', WHERE WHAT IT READS IS OF BULK AT MOST 1048576: true; the input reads as it did. -/
def windowPartsUptoRow : OpenClaim := { program := "ytljkneajdndgjaagreat", sum := "9b66e7724e6be578fc2ef30fffdf9ce649a2cde9009ee87dd2b4e156210e15e7", func := "rescind/rescindlaw30.WindowParts", spec := "windowParts", unfollowed := true, recurses := true, apart := false, narrowed := true }
def WindowPartsUptoSaid : Prop := windowPartsUptoRow.holds Tryz.pinned (OpenSpec.upto windowPartsSpec)

/-- 'rescindlaw30.WindowSettles', WHERE WHAT IT READS IS OF BULK AT MOST 1048576: true; the input reads as it did. -/
def windowSettlesUptoRow : OpenClaim := { program := "ytljkneajdndgjaagreat", sum := "9b66e7724e6be578fc2ef30fffdf9ce649a2cde9009ee87dd2b4e156210e15e7", func := "rescind/rescindlaw30.WindowSettles", spec := "windowSettles", unfollowed := true, recurses := true, apart := false, narrowed := true }
def WindowSettlesUptoSaid : Prop := windowSettlesUptoRow.holds Tryz.pinned (OpenSpec.upto windowSettlesSpec)

/-- 'rescindlaw30.WindowForgets', WHERE WHAT IT READS IS OF BULK AT MOST 1048576: true; the input reads as it did. -/
def windowForgetsUptoRow : OpenClaim := { program := "ytljkneajdndgjaagreat", sum := "9b66e7724e6be578fc2ef30fffdf9ce649a2cde9009ee87dd2b4e156210e15e7", func := "rescind/rescindlaw30.WindowForgets", spec := "windowForgets", unfollowed := true, recurses := true, apart := false, narrowed := true }
def WindowForgetsUptoSaid : Prop := windowForgetsUptoRow.holds Tryz.pinned (OpenSpec.upto windowForgetsSpec)

/-- 'rescindlaw30.WindowRises', WHERE WHAT IT READS IS OF BULK AT MOST 1048576: true; the input reads as it did. -/
def windowRisesUptoRow : OpenClaim := { program := "ytljkneajdndgjaagreat", sum := "9b66e7724e6be578fc2ef30fffdf9ce649a2cde9009ee87dd2b4e156210e15e7", func := "rescind/rescindlaw30.WindowRises", spec := "windowRises", unfollowed := true, recurses := true, apart := false, narrowed := true }
def WindowRisesUptoSaid : Prop := windowRisesUptoRow.holds Tryz.pinned (OpenSpec.upto windowRisesSpec)

/-- 'rescindlaw28.HopParts', WHERE WHAT IT READS IS OF BULK AT MOST 1048576: true; the input reads as it did. -/
def hopPartsUptoRow : OpenClaim := { program := "ytljkneajdndgjaagreat", sum := "9b66e7724e6be578fc2ef30fffdf9ce649a2cde9009ee87dd2b4e156210e15e7", func := "rescind/rescindlaw28.HopParts", spec := "hopParts", unfollowed := true, recurses := true, apart := false, narrowed := true }
def HopPartsUptoSaid : Prop := hopPartsUptoRow.holds Tryz.pinned (OpenSpec.upto hopPartsSpec)

/-- 'rescindlaw27.SnapBack', WHERE WHAT IT READS IS OF BULK AT MOST 1048576: true; the input reads as it did. -/
def snapBackUptoRow : OpenClaim := { program := "ytljkneajdndgjaagreat", sum := "9b66e7724e6be578fc2ef30fffdf9ce649a2cde9009ee87dd2b4e156210e15e7", func := "rescind/rescindlaw27.SnapBack", spec := "snapBack", unfollowed := true, recurses := true, apart := false, narrowed := true }
def SnapBackUptoSaid : Prop := snapBackUptoRow.holds Tryz.pinned (OpenSpec.upto snapBackSpec)

end Rows
end Go.Proofs.YtljkneajdndgjaaGreat
