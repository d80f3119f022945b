/-
  A helper of ours: no claim of its own. Layer 24 (multi): how things are compared, and where one is found, by the code.
-/
import Derived.Test.YtnneicdphlidhaaRows
import Derived.Test.YtnneicdphlidhaaMulS
import Derived.Test.YtnneicdphlidhaaMem
import Derived.Deep.LoopGhost
import Derived.BigQuiet
import Derived.Handy
set_option linter.unusedVariables false
set_option linter.unusedSimpArgs false
namespace Go.Proofs.Ytnneicdphlidhaa
open Go.RowKit
attribute [local go_sem] GW.cell GW.frozen In.eq_true In.le_true In.ne In.ne' In.ne_add In.ne_add' In.lt_add Upto.le_true Upto.le_add Upto.lt_add
theorem mcompare_c (a b : Int) (w : World) : Calls Try.prog 10 #[.int .i64 a, .int .i64 b] w fun e w' => e = .returned (.int .i64 (cmpI a b)) ∧ Ext w w' := by
  unfold cmpI
  by_cases h : a < b
  · rw [if_pos h]
    go_enter Try.func10, Try.ntmps10
    go_wp2
    go_returns
    exact ⟨rfl, Ext.refl _⟩
  · rw [if_neg h]
    by_cases h2 : b < a
    · rw [if_pos h2]
      go_enter Try.func10, Try.ntmps10
      go_wp2
      go_returns
      exact ⟨rfl, Ext.refl _⟩
    · rw [if_neg h2]
      go_enter Try.func10, Try.ntmps10
      go_wp2
      go_returns
      exact ⟨rfl, Ext.refl _⟩
abbrev cmpF : Value := .func (.func 10) #[] #[]
/-- Numbers in twos, as cells. -/
def tgs (l : List Tg) : List Value := l.flatMap fun p => [.int .i64 p.1, .int .i64 p.2]
theorem tgs_length (l : List Tg) : (tgs l).length = l.length * 2 := by
  induction l with
  | nil => rfl
  | cons p r ih => rw [show tgs (p :: r) = [.int .i64 p.1, .int .i64 p.2] ++ tgs r from rfl, List.length_append, ih]; simp; omega
theorem tgs_get : ∀ (l : List Tg) (i : Nat) (p : Tg), l[i]? = some p → (tgs l)[i * 2]? = some (.int .i64 p.1) ∧ (tgs l)[i * 2 + 1]? = some (.int .i64 p.2)
  | q :: r, 0, p, h => by simp at h; subst h; exact ⟨rfl, rfl⟩
  | q :: r, i + 1, p, h => by
    have := tgs_get r i p (by simpa using h)
    rw [show tgs (q :: r) = [.int .i64 q.1, .int .i64 q.2] ++ tgs r from rfl, List.getElem?_append_right (by simp; omega), List.getElem?_append_right (by simp; omega)]
    rw [show (i + 1) * 2 - [Value.int .i64 q.1, .int .i64 q.2].length = i * 2 by simp; omega, show (i + 1) * 2 + 1 - [Value.int .i64 q.1, .int .i64 q.2].length = i * 2 + 1 by simp; omega]
    exact this
/-- A multi in memory. -/
structure Mu (w : World) (base b : Nat) (v : Value) (l : List Tg) (c : Int) : Prop where
  ob : Ob w b 65 [cmpF, v, .int .i64 c]
  own : w.ownsRow base 69 2 v l.length (tgs l)
  le : base ≤ b
theorem Mu.ext {w w' : World} {base b : Nat} {v : Value} {l : List Tg} {c : Int} (h : Mu w base b v l c) (k : Ext w w') : Mu w' base b v l c := ⟨h.ob.ext k, own_ext h.own k, h.le⟩
theorem Mu.at {w : World} {base b : Nat} {v : Value} {l : List Tg} {c : Int} (h : Mu w base b v l c) {k : Nat} {p : Tg} (hp : l[k]? = some p) : ∃ g cap, v = .slice (some ⟨g, 0, none⟩) l.length cap ∧ g < w.heap.size ∧ w.cell? ⟨g, k * 2, none⟩ = some (.int .i64 p.1) ∧ w.cell? ⟨g, k * 2 + 1, none⟩ = some (.int .i64 p.2) := by
  have hk : k < l.length := (List.getElem?_eq_some_iff.1 hp).1
  rcases h.own.2 with ⟨-, h2⟩ | ⟨g, cap, cur, rfl, hb, hg, -⟩
  · omega
  · obtain ⟨t0, t1⟩ := tgs_get l k p hp
    have c0 := h.own.cells (g := g) rfl _ _ t0
    have c1 := h.own.cells (g := g) rfl _ _ t1
    rw [add_plain, Nat.zero_add] at c0 c1
    exact ⟨g, cap, rfl, block_lt_of_cell c0, c0, c1⟩
/-- The closure of find: what it captured points at the multi. -/
theorem mfind1_c (a n k : Int) (bx b : Nat) (v : Value) (c : Int) (w : World) (hb : Ob w bx 24 [.pointer (some ⟨b, 0, none⟩)]) (hm : Ob w b 65 [cmpF, v, .int .i64 c]) :
    Calls Try.prog 41 #[.agg #[.int .i64 a, .int .i64 n], .int .i64 k, .pointer (some ⟨bx, 0, none⟩)] w fun e w' => e = .returned (.int .i64 (cmpI a k)) ∧ Ext w w' := by
  have hc := hide (fun w' => mcompare_c a k w')
  have b0 := hb.cell 0 rfl
  have m0 := hm.cell 0 rfl
  have bl := hb.lt
  have ml := hm.lt
  haveI : In bx w := ⟨bl⟩
  haveI : In b w := ⟨ml⟩
  generalize cmpI a k = R at *
  go_enter Try.func41, Try.ntmps41
  go_wp2_with fail
  refine wp_region_gw_tail 8 (by kernel_rfl) (by kernel_rfl) ?_
  simp only [List.take_succ_cons, List.take_zero, List.drop_succ_cons, List.drop_zero]
  repeat (go_big_quiet_step ((go_at_call 10; with_reducible exact quiet_gw (hc.out _))))
  refine wpQuiet_nil ?_
  intro g
  go_wp2_with fail
  go_returns
  exact ⟨rfl, ((Ext.refl w).alloc _).trans g.grown⟩
end Go.Proofs.Ytnneicdphlidhaa
