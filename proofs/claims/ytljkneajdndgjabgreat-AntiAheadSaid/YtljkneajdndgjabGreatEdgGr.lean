/-
  A helper of ours: no claim of its own. Layer 10 (edge): the rows that are told, each with its function, by the code: it ranges over a function itself, and hands copies over.
-/
import Derived.Test.YtljkneajdndgjabGreatEdgF
import Derived.Test.YtljkneajdndgjabGreatReg3
import Derived.Test.YtljkneajdndgjabGreatSchS
set_option linter.unusedVariables false
set_option linter.unusedSimpArgs false
namespace Go.Proofs.YtljkneajdndgjabGreat
open Go.RowKit
attribute [-go_sem] sliced
attribute [local go_sem] sliced_eq
attribute [local go_sem] GW.cell GW.frozen In.eq_true In.le_true In.ne In.ne' In.ne_add In.ne_add' In.lt_add Upto.le_true Upto.le_add Upto.lt_add Oper.semAt_some wide_depth wide_fn
/-- What comes for a row: the row, and jumps of one's own. -/
def Hgo (x : Gp) (vs : Array Value) (W : World) : Prop := ∃ r f, vs = #[r, f] ∧ (Rw W [] r x.1 ∧ OwnJ W 0 f x.2)
theorem Hgo.stab {B : Nat} (x : Gp) (vs : Array Value) : Stab B (Hgo x vs) := Stab.ex fun r => Stab.ex fun f => (Stab.pure _).and ((Stab.sl _ _ _ _ _).and (Stab.own _ _ _ _ _ _))
theorem Hgo.size {x : Gp} {vs : Array Value} {W : World} (h : Hgo x vs W) : vs.size = 2 := by obtain ⟨r, f, rfl, _⟩ := h; rfl
end Go.Proofs.YtljkneajdndgjabGreat
set_option linter.unusedVariables false
set_option linter.unusedSimpArgs false
namespace Go.Proofs.YtljkneajdndgjabGreat
open Go.RowKit
theorem Stab.mono {B B' : Nat} {p : World → Prop} (h : Stab B p) (hB : B ≤ B') : Stab B' p := ⟨h.ext, fun A l o o' x hl => h.put A l o o' x (Nat.le_trans hB hl)⟩
theorem keepsF_mono {B B' : Nat} {W W' : World} (h : KeepsFrom B W W') (hB : B ≤ B') : KeepsFrom B' W W' := ⟨h.size, fun k o hk => h.same k o (Nat.le_trans hB hk)⟩
theorem keepsF_trans {B : Nat} {W W' w : World} (h : KeepsFrom B W W') (k : KeepsFrom B W' w) : KeepsFrom B W w := ⟨Nat.le_trans h.size k.size, fun i o hi ho hc => k.same i o hi (h.same i o hi ho hc) hc⟩
theorem keepsF_put {B l : Nat} {A : World} (hl : l < B) (o : Obj) : KeepsFrom B A (A.putObj l o) := ⟨by simp, fun k p hk hp _ => (World.putObj_heap_other (by omega)).trans hp⟩
theorem ob_putF {A : World} {l : Nat} {o o' : Obj} (ho : A.heap[l]? = some o) (hc : o.isCells = false) {b : Nat} {T : TypeId} {vs : List Value} (h : Ob A b T vs) : Ob (A.putObj l o') b T vs := put_block ho hc h rfl
/-- A round's call of yield, where it stands in a round itself; told in one way. -/
theorem yield_in {P : Program} {ly l : Nat} {vs : Array Value} {W : World} {R : Ending → World → Prop} (h : YieldAt Fence.wide 0 P ly vs W R) : ∃ fn tmps assign body, (Instr.yield ly vs).run P W = .ok (.round ly fn tmps assign body) W ∧ RoundIn (Fence.wide.inRound l) 0 P ly fn tmps assign body W R := by
  obtain ⟨fn, tmps, assign, body, hy, hR⟩ := h
  exact ⟨fn, tmps, assign, body, hy, hR⟩
section
variable {β : Type} {P : Program} {g : Operand} {ps : Array Tmp} {assign body : Code} {Q : Exit → Act → World → Prop} {a : Act} {w w0 : World} {gf n₀ : Nat} {lb : Array Value} {H : β → Array Value → World → Prop} {xs : List β}
end

end Go.Proofs.YtljkneajdndgjabGreat
set_option linter.unusedVariables false
set_option linter.unusedSimpArgs false
namespace Go.Proofs.YtljkneajdndgjabGreat
open Go.RowKit
attribute [local go_sem] GW.cell GW.frozen In.eq_true In.le_true In.ne In.ne' In.ne_add In.ne_add' In.lt_add Upto.le_true Upto.le_add Upto.lt_add Oper.semAt_some wide_depth wide_fn
/-- What is told for a row: a copy of it, and its jumps, each in a block of their kind. -/
def Hgg (x : Gp) (vs : Array Value) (W : World) : Prop := ∃ r f, vs = #[r, f] ∧ (OwnR W 0 r x.1 ∧ OwnJ W 0 f x.2)
theorem Hgg.stab {B : Nat} (x : Gp) (vs : Array Value) : Stab B (Hgg x vs) := Stab.ex fun r => Stab.ex fun f => (Stab.pure _).and ((Stab.own _ _ _ _ _ _).and (Stab.own _ _ _ _ _ _))
theorem Hgg.size {x : Gp} {vs : Array Value} {W : World} (h : Hgg x vs W) : vs.size = 2 := by obtain ⟨r, f, rfl, _⟩ := h; rfl
end Go.Proofs.YtljkneajdndgjabGreat
