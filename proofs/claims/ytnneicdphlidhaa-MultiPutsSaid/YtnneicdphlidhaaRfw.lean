/-
  A helper of ours: no claim of its own. Words for walks in a round of a range over a function.
-/
import Derived.Test.YtnneicdphlidhaaRf
import Derived.Shelf.RegionOpen
set_option linter.unusedVariables false
set_option linter.unusedSimpArgs false
namespace Go.Proofs.Ytnneicdphlidhaa
open Go.RowKit
theorem wide_depth : Fence.wide.depth = none := rfl
theorem wide_fn (f : FuncId) : Fence.wide.fn f = True := rfl
theorem seq_gi {P : Program} {l n : Nat} {f : FuncId} {args : Array Value} {w : World} {v : Value} {R : Ending → World → Prop} (h : Calls P f args w fun e w' => e = .returned v ∧ Ext w w')
    (hr : ∀ g : GW w, R (.returned v) g.val) : CallsIn (Fence.wide.inRound l) n P f args w R := in_round (seq_gw h hr)
theorem seq_gi' {P : Program} {l n : Nat} {f : FuncId} {args : Array Value} {W : World} {g : GW W} {v : Value} {R : Ending → World → Prop} (h : Calls P f args g.val fun e w' => e = .returned v ∧ Ext g.val w')
    (hr : ∀ k : GW W, R (.returned v) k.val) : CallsIn (Fence.wide.inRound l) n P f args g.val R := in_round (seq_gw' h hr)
theorem seq_wi {P : Program} {n : Nat} {f : FuncId} {args : Array Value} {w : World} {v : Value} {R : Ending → World → Prop} (h : Calls P f args w fun e w' => e = .returned v ∧ Ext w w')
    (hr : ∀ g : GW w, R (.returned v) g.val) : CallsIn Fence.wide n P f args w R := callsIn_wide.2 (seq_gw h hr)
theorem seq_wi' {P : Program} {n : Nat} {f : FuncId} {args : Array Value} {W : World} {g : GW W} {v : Value} {R : Ending → World → Prop} (h : Calls P f args g.val fun e w' => e = .returned v ∧ Ext g.val w')
    (hr : ∀ k : GW W, R (.returned v) k.val) : CallsIn Fence.wide n P f args g.val R := callsIn_wide.2 (seq_gw' h hr)
/-- What is told of a box across a turn of a block that holds no cells. -/
theorem ob_put {A : World} {l : Nat} {o o' : Obj} (ho : A.heap[l]? = some o) (hc : o.isCells = false) {b : Nat} {T : TypeId} {vs : List Value} (h : Ob A b T vs) : Ob (A.putObj l o') b T vs := put_block ho hc h rfl
end Go.Proofs.Ytnneicdphlidhaa
