/-
  A helper of ours: no claim of its own. Worlds that have grown ('GW W': a world that 'Grown W' reaches), what a walk reads of such a world, and one theorem on regions that draw their order: operations that yield one value in every world of a class come first, a forced tail comes behind them.
-/
import Derived.WalkKit
import Derived.ProofKit
import Derived.StillTail
import Derived.Deep.Quiet
import Derived.Deep.QuietTactic
import Derived.BigQuiet
namespace Go.Proofs.YtljkneajdndgjabGreat
open Go.RowKit

theorem hide {p : Prop} (h : p) : Hid p := h

/-- What was there is as it was; there may be more. -/
def Ext (W w : World) : Prop := Below W.heap.size W w

theorem Ext.refl (W : World) : Ext W W := Below.refl _ _
theorem Ext.trans {a b c : World} (h : Ext a b) (k : Ext b c) : Ext a c := Below.trans h (Below.mono k (Below.size h))
theorem Ext.alloc {W w : World} (h : Ext W w) (o : Obj) : Ext W (w.alloc o) := Below.alloc h (Below.size h) o
theorem Ext.drew {W w : World} (h : Ext W w) : Ext W w.drew := Below.drew h
theorem Ext.drewN {W w : World} (h : Ext W w) (n : Nat) : Ext W (w.drewN n) := ⟨h.os, h.tape, h.output, h.size, h.block⟩
theorem Ext.setCell {W w : World} (h : Ext W w) {p : Addr} (hp : W.heap.size ≤ p.block) (u : Value) : Ext W (w.setCell p u) := Below.setCell h hp u

/-- A world that has grown out of W. -/
structure GW (W : World) where
  val : World
  grown : Ext W val

instance GW.some (W : World) : Nonempty (GW W) := ⟨⟨W, Ext.refl W⟩⟩

/-- Block number n lies in the world w: told by the world's make. -/
class In (n : Nat) (w : World) : Prop where
  lt : n < w.heap.size
/-- Number n is not above the number of blocks of w. -/
class Upto (n : Nat) (w : World) : Prop where
  le : n ≤ w.heap.size

section
variable {W w : World} {n : Nat}
instance In.gw (g : GW W) [h : In n W] : In n g.val := ⟨Nat.lt_of_lt_of_le h.lt (Below.size g.grown)⟩
instance In.alloc (o : Obj) [h : In n w] : In n (w.alloc o) := ⟨by have := h.lt; simp; omega⟩
instance In.next (o : Obj) [h : In n w] : In (n + 1) (w.alloc o) := ⟨by have := h.lt; simp; omega⟩
instance In.next2 (o p : Obj) [h : In n w] : In (n + 2) ((w.alloc o).alloc p) := ⟨by have := h.lt; simp; omega⟩
instance In.top (w : World) (o : Obj) : In w.heap.size (w.alloc o) := ⟨by simp⟩
instance In.top1 (w : World) (o p : Obj) : In (w.heap.size + 1) ((w.alloc o).alloc p) := ⟨by simp⟩
instance In.top2 (w : World) (o p q : Obj) : In (w.heap.size + 2) (((w.alloc o).alloc p).alloc q) := ⟨by simp⟩
instance In.top3 (w : World) (o p q r : Obj) : In (w.heap.size + 3) ((((w.alloc o).alloc p).alloc q).alloc r) := ⟨by simp⟩
instance In.top4 (w : World) (o p q r s : Obj) : In (w.heap.size + 4) (((((w.alloc o).alloc p).alloc q).alloc r).alloc s) := ⟨by simp⟩
instance In.top5 (w : World) (o p q r s t : Obj) : In (w.heap.size + 5) ((((((w.alloc o).alloc p).alloc q).alloc r).alloc s).alloc t) := ⟨by simp⟩
instance In.store (a : Addr) (v : Value) [h : In n w] : In n (w.setCell a v) := ⟨by have := h.lt; simpa using this⟩
instance In.drew [h : In n w] : In n w.drew := ⟨h.lt⟩
instance In.drewN (k : Nat) [h : In n w] : In n (w.drewN k) := ⟨h.lt⟩
instance Upto.gw (g : GW W) [h : Upto n W] : Upto n g.val := ⟨Nat.le_trans h.le (Below.size g.grown)⟩
instance Upto.alloc (o : Obj) [h : Upto n w] : Upto n (w.alloc o) := ⟨by have := h.le; simp; omega⟩
instance Upto.top (w : World) : Upto w.heap.size w := ⟨Nat.le_refl _⟩
instance Upto.store (a : Addr) (v : Value) [h : Upto n w] : Upto n (w.setCell a v) := ⟨by have := h.le; simpa using this⟩
instance Upto.drew [h : Upto n w] : Upto n w.drew := ⟨h.le⟩
instance Upto.drewN (k : Nat) [h : Upto n w] : Upto n (w.drewN k) := ⟨h.le⟩

theorem In.eq_true [h : In n w] : (n < w.heap.size) = True := _root_.eq_true h.lt
theorem In.le_true [h : In n w] : (n ≤ w.heap.size) = True := _root_.eq_true (Nat.le_of_lt h.lt)
theorem In.ne [h : In n w] : (n = w.heap.size) = False := _root_.eq_false (Nat.ne_of_lt h.lt)
theorem In.ne' [h : In n w] : (w.heap.size = n) = False := _root_.eq_false (Nat.ne_of_gt h.lt)
theorem In.ne_add [h : In n w] {k : Nat} : (n = w.heap.size + k) = False := _root_.eq_false (by have := h.lt; omega)
theorem In.ne_add' [h : In n w] {k : Nat} : (w.heap.size + k = n) = False := _root_.eq_false (by have := h.lt; omega)
theorem In.lt_add [h : In n w] {k : Nat} : (n < w.heap.size + k) = True := _root_.eq_true (by have := h.lt; omega)
theorem Upto.le_true [h : Upto n w] : (n ≤ w.heap.size) = True := _root_.eq_true h.le
theorem Upto.le_add [h : Upto n w] {k : Nat} : (n ≤ w.heap.size + k) = True := _root_.eq_true (by have := h.le; omega)
theorem Upto.lt_add [h : Upto n w] {k : Nat} : (n < w.heap.size + (k + 1)) = True := _root_.eq_true (by have := h.le; omega)

variable (g : GW W)
theorem GW.cell {b o : Nat} [h : In b W] : g.val.cell? ⟨b, o, none⟩ = W.cell? ⟨b, o, none⟩ := Below.cell (p := ⟨b, o, none⟩) g.grown h.lt
theorem GW.frozen {b o : Nat} [h : In b W] : g.val.frozen? ⟨b, o, none⟩ = W.frozen? ⟨b, o, none⟩ := Below.frozen (p := ⟨b, o, none⟩) g.grown h.lt
theorem GW.size : W.heap.size ≤ g.val.heap.size := Below.size g.grown
end

theorem ext_gw {W w : World} (h : Ext W w) (g : GW w) : Ext W g.val := h.trans g.grown

/-- A contract under which the world grows, met in a class of grown worlds. -/
theorem quiet_gw {P : Program} {f : FuncId} {args : Array Value} {W : World} {g : GW W} {v : Value} (h : Calls P f args g.val fun e w' => e = .returned v ∧ Ext g.val w') :
    Calls P f args g.val fun e w'' => e = .returned v ∧ ∃ k : GW W, w'' = k.val :=
  h.mono fun _ _ ⟨he, hm⟩ => ⟨he, ⟨_, g.grown.trans hm⟩, rfl⟩
theorem seq_gw {P : Program} {f : FuncId} {args : Array Value} {w : World} {v : Value} {R : Ending → World → Prop} (h : Calls P f args w fun e w' => e = .returned v ∧ Ext w w')
    (hr : ∀ g : GW w, R (.returned v) g.val) : Calls P f args w R :=
  h.mono fun _ w' ⟨he, hm⟩ => by subst he; exact hr ⟨w', hm⟩
theorem seq_gw' {P : Program} {f : FuncId} {args : Array Value} {W : World} {g : GW W} {v : Value} {R : Ending → World → Prop} (h : Calls P f args g.val fun e w' => e = .returned v ∧ Ext g.val w')
    (hr : ∀ k : GW W, R (.returned v) k.val) : Calls P f args g.val R :=
  h.mono fun _ w' ⟨he, hm⟩ => by subst he; exact hr ⟨w', g.grown.trans hm⟩

section
variable {P : Program} {ops : Array Oper} {md : Region.Mode} {C : World → Prop}

/-- The first n operations, in whatever order; then L. -/
def wpAnyG (P : Program) (md : Region.Mode) (ops : Array Oper) (C : World → Prop) (n : Nat) (L : Array Bool → Act → Prop) : Nat → Array Bool → Act → Prop
  | 0, listed, a => L listed a
  | f + 1, listed, a =>
    Region.ready md ops listed ≠ [] ∧ ∀ i ∈ Region.ready md ops listed, i < n ∧ qOp P ops C i (wpAnyG P md ops C n L f (listed.setIfInBounds i true)) a

theorem wpAny_of_headG {n g : Nat} {L : Array Bool → Act → Prop} {Q' : Exit → Act → World → Prop} (hL : ∀ listed a w, C w → L listed a → wpAny P md ops Q' g listed a w) :
    ∀ (f : Nat) (listed : Array Bool) (a : Act) (w : World), C w → wpAnyG P md ops C n L f listed a → wpAny P md ops Q' (f + g) listed a w
  | 0, listed, a, w, hw, h => by rw [Nat.zero_add]; exact hL _ _ _ hw h
  | f + 1, listed, a, w, hw, h => by
    rw [show f + 1 + g = (f + g) + 1 by omega]
    exact ⟨fun h0 => absurd h0 h.1, fun i hi => wpOp_of_qOp hw (fun a' w' hw' h' => wpAny_of_headG hL f _ a' w' hw' h') (h.2 i hi).2⟩

theorem wpAnyG_first {n i : Nat} {oi : Oper} {v : Value} {L : Array Bool → Act → Prop} (hi : ops[i]? = some oi) (hsel : ∀ (j : Nat) (o : Oper) cs b, ops[j]? = some o → o.op ≠ .select cs b)
    (hs : Region.sinkB md ops n = true) (hc : Region.chainB md ops n = true) (hn : n < ops.size) (hin : i < n)
    (hdone : ∀ listed a, L listed a → ∀ j ∈ Region.ready md ops listed, n ≤ j) :
    ∀ (f : Nat) (listed : Array Bool) (a : Act), HeadInv md ops n listed →
      (∀ j oj, ops[j]? = some oj → j ≠ i → listed.getD j true = false → (∀ e ∈ oj.after, Region.binds md e = true → e.on ≠ i) → oi.apart ops oj = true) →
      i ∈ Region.ready md ops listed → YieldsIn P ops C oi v a →
      wpAnyG P md ops C n L f (listed.setIfInBounds i true) (a.put oi.dst v) → wpAnyG P md ops C n L (f + 1) listed a := by
  intro f
  induction f with
  | zero =>
    intro listed a inv _ hr hy H
    have hun := (mem_ready.1 hr).1
    refine ⟨fun h => (by rw [h] at hr; cases hr), fun j hj => ?_⟩
    have hjn : j < n := by
      rcases Nat.lt_or_ge j n with h | h
      · exact h
      · exact absurd hj (tail_waits hs hc hn inv _ i rfl hin hun j h)
    refine ⟨hjn, ?_⟩
    by_cases hji : j = i
    · subst hji; exact hy.qOp hi H
    · have := hdone _ _ H j (ready_mono hj hji)
      omega
  | succ f ih =>
    intro listed a inv hfree hr hy H
    have hun := (mem_ready.1 hr).1
    refine ⟨fun h => (by rw [h] at hr; cases hr), fun j hj => ?_⟩
    have hjn : j < n := by
      rcases Nat.lt_or_ge j n with h | h
      · exact h
      · exact absurd hj (tail_waits hs hc hn inv _ i rfl hin hun j h)
    refine ⟨hjn, ?_⟩
    by_cases hji : j = i
    · subst hji; exact hy.qOp hi H
    · have h1 := (H.2 j (ready_mono hj hji)).2
      obtain ⟨hjun, oj, hoj, hall⟩ := mem_ready.1 hj
      have hnot : ∀ e ∈ oj.after, Region.binds md e = true → e.on ≠ i := fun e he hb heq => by
        have h1 := hall e he hb
        rw [heq, getD_both hun] at h1
        cases h1
      have h2 := qOp_put hoj (hfree j oj hoj hji hjun hnot) (fun cs b => hsel i oi cs b hi) (fun cs b => hsel j oj cs b hoj) hy h1
      have hfree' : ∀ k ok, ops[k]? = some ok → k ≠ i → (listed.setIfInBounds j true).getD k true = false →
          (∀ e ∈ ok.after, Region.binds md e = true → e.on ≠ i) → oi.apart ops ok = true := fun k ok hk hki hun hno => by
        refine hfree k ok hk hki ?_ hno
        by_cases hjk : j = k
        · subst hjk; exact hjun
        · rw [getD_set_ne true hjk] at hun; exact hun
      refine qOp_mono (fun a' h3 => ih (listed.setIfInBounds j true) a' (inv.set hj hjn) hfree' (ready_mono hr (Ne.symm hji)) h3.1 ?_) h2
      rw [Array.setIfInBounds_comm _ _ hji]
      exact h3.2

theorem wpAnyG_lex {n g : Nat} {Lq : Act → Prop} (hsel : Region.noSelect ops = true) (hs : Region.sinkB md ops n = true) (hc : Region.chainB md ops n = true) (hn : n < ops.size) :
    ∀ (l : List Oper) (k : Nat) (listed : Array Bool) (a : Act), (∀ j, j < l.length → l[j]? = ops[k + j]?) → k + l.length = n → HeadInv md ops n listed →
    Region.lexHead md ops g l.length k listed = true → wpQuiet P ops C Lq l a →
    wpAnyG P md ops C n (fun listed' a' => Region.seqB md ops g n listed' = true ∧ Lq a') l.length listed a
  | [], k, listed, a, _, hk, _, hB, h => by
    have : k = n := by simpa using hk
    subst this
    exact ⟨by simpa [Region.lexHead] using hB, h⟩
  | o :: l, k, listed, a, hl, hk, inv, hB, h => by
    have h0 : ops[k]? = some o := by simpa using (hl 0 (by simp)).symm
    simp only [List.length_cons, Region.lexHead, Bool.and_eq_true] at hB
    obtain ⟨⟨hr, hf⟩, hB'⟩ := hB
    have hkn : k < n := by simp only [List.length_cons] at hk; omega
    have hr' : k ∈ Region.ready md ops listed := by simpa using hr
    have hst : qOp P ops C k (wpQuiet P ops C Lq l) a := by unfold qOp; simp only [h0]; exact h
    obtain ⟨v, hy, hK⟩ := yieldsIn_of_qOp h0 hst
    exact wpAnyG_first h0 (Region.noSelect_spec hsel) hs hc hn hkn (fun listed' a' hL => seqB_ready hL.1) l.length listed a inv (Region.free_spec h0 hf) hr' hy
      (wpAnyG_lex hsel hs hc hn l (k + 1) _ _ (fun j hj => by have := hl (j + 1) (by simp; omega); simpa [Nat.add_assoc, Nat.add_comm 1 j] using this) (by simp only [List.length_cons] at hk; omega) (inv.set hr' hkn) hB' hK)

/-- A region that draws: its first n operations yield one value each in every grown world; what is behind them comes in the text's order. -/
theorem wp_region_gw_tail {id : Nat} {Q : Exit → Act → World → Prop} {a : Act} {w : World} {l : List Oper} (n : Nat) (hm : P.follows .mixedOrders = true) (hB : Region.lexTailB .any l.toArray n = true)
    (h : wpQuiet P l.toArray (fun w' => ∃ g : GW w, w' = g.val) (fun a' => ∀ g : GW w, wpList P l.toArray Q (l.drop n) a' g.val) (l.take n) a) : (Code.region id l.toArray true).wp P Q a w := by
  simp only [Region.lexTailB, Bool.and_eq_true, decide_eq_true_eq] at hB
  obtain ⟨⟨⟨⟨hsel, hn⟩, hs⟩, hc⟩, hlex⟩ := hB
  have hn' : n < l.length := by simpa using hn
  have htl : (l.take n).length = n := by simp; omega
  have hdl : (l.drop n).length = l.toArray.size - n := by simp
  have inv0 : HeadInv .any l.toArray n (Array.replicate l.toArray.size false) :=
    ⟨by simp, fun j oj _ hl => (by rw [getD_replicate_false] at hl; cases hl), fun t _ ht => getD_in (by simpa using ht) (getD_replicate_false _ _)⟩
  have H := wpAnyG_lex (md := .any) (g := l.toArray.size - n) hsel hs hc hn (l.take n) 0 _ a (fun j hj => by
    have hj' : j < n := by rw [htl] at hj; exact hj
    simp [hj']) (by simpa using htl) inv0 (by rw [htl]; exact hlex) h
  refine wp_region_any hm ?_
  have := wpAny_of_headG (Q' := Q) (g := l.toArray.size - n) (fun listed a' w' hw' hL => by
    obtain ⟨g, rfl⟩ := hw'
    have := wpAny_of_seq (md := .any) (Q' := Q) (l.drop n) n listed a' g.val (fun j => by simp [List.getElem?_drop]) (by rw [hdl]; exact hL.1) (hL.2 g)
    rwa [hdl] at this) _ _ _ { w with drawn := w.drawn + 1 } ⟨⟨_, (Ext.refl w).drew⟩, rfl⟩ H
  rw [htl, show n + (l.toArray.size - n) = l.toArray.size by omega] at this
  exact this

/-- A region that draws, all of whose operations yield one value each in every grown world. -/
theorem wp_region_gw {id : Nat} {Q : Exit → Act → World → Prop} {a : Act} {w : World} {l : List Oper} (hm : P.follows .mixedOrders = true) (hB : Region.lexB .any l.toArray = true)
    (h : wpQuiet P l.toArray (fun w' => ∃ g : GW w, w' = g.val) (fun a' => ∀ g : GW w, Q .normal a' g.val) l a) : (Code.region id l.toArray true).wp P Q a w := by
  refine wp_region_quiet (C := fun w' => ∃ g : GW w, w' = g.val) hm hB ⟨⟨_, (Ext.refl w).drew⟩, rfl⟩ ?_
  have e : (fun a' => ∀ g : GW w, Q .normal a' g.val) = fun a' => ∀ w', (∃ g : GW w, w' = g.val) → Q .normal a' w' := by
    funext a'; exact propext ⟨fun h w' ⟨g, hg⟩ => hg ▸ h g, fun h g => h _ ⟨g, rfl⟩⟩
  rw [e] at h
  simpa using h
end
end Go.Proofs.YtljkneajdndgjabGreat
