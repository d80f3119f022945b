/-
  A helper of ours: no claim of its own. Worlds that have grown ('GW W': a world that 'Grown W' reaches), what a walk reads of such a world, and one theorem on regions that draw their order: operations that yield one value in every world of a class come first, a forced tail comes behind them.
-/
import Derived.WalkKit
import Derived.ProofKit
import Derived.StillTail
import Derived.Deep.Quiet
import Derived.Deep.QuietTactic
import Derived.BigQuiet
namespace Go.Proofs.YtljkneajdndgjabGreat
open Go.RowKit

theorem hide {p : Prop} (h : p) : Hid p := h

/-- What was there is as it was; there may be more. -/
def Ext (W w : World) : Prop := Below W.heap.size W w

theorem Ext.refl (W : World) : Ext W W := Below.refl _ _
theorem Ext.trans {a b c : World} (h : Ext a b) (k : Ext b c) : Ext a c := Below.trans h (Below.mono k (Below.size h))
theorem Ext.alloc {W w : World} (h : Ext W w) (o : Obj) : Ext W (w.alloc o) := Below.alloc h (Below.size h) o
theorem Ext.drew {W w : World} (h : Ext W w) : Ext W w.drew := Below.drew h
theorem Ext.drewN {W w : World} (h : Ext W w) (n : Nat) : Ext W (w.drewN n) := ⟨h.os, h.tape, h.output, h.size, h.block⟩
theorem Ext.setCell {W w : World} (h : Ext W w) {p : Addr} (hp : W.heap.size ≤ p.block) (u : Value) : Ext W (w.setCell p u) := Below.setCell h hp u

/-- A world that has grown out of W. -/
structure GW (W : World) where
  val : World
  grown : Ext W val

instance GW.some (W : World) : Nonempty (GW W) := ⟨⟨W, Ext.refl W⟩⟩

/-- Block number n lies in the world w: told by the world's make. -/
class In (n : Nat) (w : World) : Prop where
  lt : n < w.heap.size
/-- Number n is not above the number of blocks of w. -/
class Upto (n : Nat) (w : World) : Prop where
  le : n ≤ w.heap.size

section
variable {W w : World} {n : Nat}
instance In.gw (g : GW W) [h : In n W] : In n g.val := ⟨Nat.lt_of_lt_of_le h.lt (Below.size g.grown)⟩
instance In.alloc (o : Obj) [h : In n w] : In n (w.alloc o) := ⟨by have := h.lt; simp; omega⟩
instance In.next (o : Obj) [h : In n w] : In (n + 1) (w.alloc o) := ⟨by have := h.lt; simp; omega⟩
instance In.next2 (o p : Obj) [h : In n w] : In (n + 2) ((w.alloc o).alloc p) := ⟨by have := h.lt; simp; omega⟩
instance In.top (w : World) (o : Obj) : In w.heap.size (w.alloc o) := ⟨by simp⟩
instance In.top1 (w : World) (o p : Obj) : In (w.heap.size + 1) ((w.alloc o).alloc p) := ⟨by simp⟩
instance In.top2 (w : World) (o p q : Obj) : In (w.heap.size + 2) (((w.alloc o).alloc p).alloc q) := ⟨by simp⟩
instance In.top3 (w : World) (o p q r : Obj) : In (w.heap.size + 3) ((((w.alloc o).alloc p).alloc q).alloc r) := ⟨by simp⟩
instance In.top4 (w : World) (o p q r s : Obj) : In (w.heap.size + 4) (((((w.alloc o).alloc p).alloc q).alloc r).alloc s) := ⟨by simp⟩
instance In.top5 (w : World) (o p q r s t : Obj) : In (w.heap.size + 5) ((((((w.alloc o).alloc p).alloc q).alloc r).alloc s).alloc t) := ⟨by simp⟩
instance In.store (a : Addr) (v : Value) [h : In n w] : In n (w.setCell a v) := ⟨by have := h.lt; simpa using this⟩
instance In.drew [h : In n w] : In n w.drew := ⟨h.lt⟩
instance In.drewN (k : Nat) [h : In n w] : In n (w.drewN k) := ⟨h.lt⟩
instance Upto.gw (g : GW W) [h : Upto n W] : Upto n g.val := ⟨Nat.le_trans h.le (Below.size g.grown)⟩
instance Upto.alloc (o : Obj) [h : Upto n w] : Upto n (w.alloc o) := ⟨by have := h.le; simp; omega⟩
instance Upto.top (w : World) : Upto w.heap.size w := ⟨Nat.le_refl _⟩
instance Upto.store (a : Addr) (v : Value) [h : Upto n w] : Upto n (w.setCell a v) := ⟨by have := h.le; simpa using this⟩
instance Upto.drew [h : Upto n w] : Upto n w.drew := ⟨h.le⟩
instance Upto.drewN (k : Nat) [h : Upto n w] : Upto n (w.drewN k) := ⟨h.le⟩

theorem In.eq_true [h : In n w] : (n < w.heap.size) = True := _root_.eq_true h.lt
theorem In.le_true [h : In n w] : (n ≤ w.heap.size) = True := _root_.eq_true (Nat.le_of_lt h.lt)
theorem In.ne [h : In n w] : (n = w.heap.size) = False := _root_.eq_false (Nat.ne_of_lt h.lt)
theorem In.ne' [h : In n w] : (w.heap.size = n) = False := _root_.eq_false (Nat.ne_of_gt h.lt)
theorem In.ne_add [h : In n w] {k : Nat} : (n = w.heap.size + k) = False := _root_.eq_false (by have := h.lt; omega)
theorem In.ne_add' [h : In n w] {k : Nat} : (w.heap.size + k = n) = False := _root_.eq_false (by have := h.lt; omega)
theorem In.lt_add [h : In n w] {k : Nat} : (n < w.heap.size + k) = True := _root_.eq_true (by have := h.lt; omega)
theorem Upto.le_true [h : Upto n w] : (n ≤ w.heap.size) = True := _root_.eq_true h.le
theorem Upto.le_add [h : Upto n w] {k : Nat} : (n ≤ w.heap.size + k) = True := _root_.eq_true (by have := h.le; omega)
theorem Upto.lt_add [h : Upto n w] {k : Nat} : (n < w.heap.size + (k + 1)) = True := _root_.eq_true (by have := h.le; omega)

variable (g : GW W)
theorem GW.cell {b o : Nat} [h : In b W] : g.val.cell? ⟨b, o, none⟩ = W.cell? ⟨b, o, none⟩ := Below.cell (p := ⟨b, o, none⟩) g.grown h.lt
theorem GW.frozen {b o : Nat} [h : In b W] : g.val.frozen? ⟨b, o, none⟩ = W.frozen? ⟨b, o, none⟩ := Below.frozen (p := ⟨b, o, none⟩) g.grown h.lt
theorem GW.size : W.heap.size ≤ g.val.heap.size := Below.size g.grown
end

theorem ext_gw {W w : World} (h : Ext W w) (g : GW w) : Ext W g.val := h.trans g.grown

/-- A contract under which the world grows, met in a class of grown worlds. -/
theorem quiet_gw {P : Program} {f : FuncId} {args : Array Value} {W : World} {g : GW W} {v : Value} (h : Calls P f args g.val fun e w' => e = .returned v ∧ Ext g.val w') :
    Calls P f args g.val fun e w'' => e = .returned v ∧ ∃ k : GW W, w'' = k.val :=
  h.mono fun _ _ ⟨he, hm⟩ => ⟨he, ⟨_, g.grown.trans hm⟩, rfl⟩
theorem seq_gw {P : Program} {f : FuncId} {args : Array Value} {w : World} {v : Value} {R : Ending → World → Prop} (h : Calls P f args w fun e w' => e = .returned v ∧ Ext w w')
    (hr : ∀ g : GW w, R (.returned v) g.val) : Calls P f args w R :=
  h.mono fun _ w' ⟨he, hm⟩ => by subst he; exact hr ⟨w', hm⟩
theorem seq_gw' {P : Program} {f : FuncId} {args : Array Value} {W : World} {g : GW W} {v : Value} {R : Ending → World → Prop} (h : Calls P f args g.val fun e w' => e = .returned v ∧ Ext g.val w')
    (hr : ∀ k : GW W, R (.returned v) k.val) : Calls P f args g.val R :=
  h.mono fun _ w' ⟨he, hm⟩ => by subst he; exact hr ⟨w', g.grown.trans hm⟩

section
variable {P : Program} {ops : Array Oper} {md : Region.Mode} {C : World → Prop}

/-- A region that draws, all of whose operations yield one value each in every grown world. -/
theorem wp_region_gw {id : Nat} {Q : Exit → Act → World → Prop} {a : Act} {w : World} {l : List Oper} (hm : P.follows .mixedOrders = true) (hB : Region.lexB .any l.toArray = true)
    (h : wpQuiet P l.toArray (fun w' => ∃ g : GW w, w' = g.val) (fun a' => ∀ g : GW w, Q .normal a' g.val) l a) : (Code.region id l.toArray true).wp P Q a w := by
  refine wp_region_quiet (C := fun w' => ∃ g : GW w, w' = g.val) hm hB ⟨⟨_, (Ext.refl w).drew⟩, rfl⟩ ?_
  have e : (fun a' => ∀ g : GW w, Q .normal a' g.val) = fun a' => ∀ w', (∃ g : GW w, w' = g.val) → Q .normal a' w' := by
    funext a'; exact propext ⟨fun h w' ⟨g, hg⟩ => hg ▸ h g, fun h g => h _ ⟨g, rfl⟩⟩
  rw [e] at h
  simpa using h
end
end Go.Proofs.YtljkneajdndgjabGreat
