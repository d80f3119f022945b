/-
  A helper of ours: no claim of its own. Layer 8 (msg): the document's check, a message's tick, which are the same, and what is made (as MsgB, beside Own).
-/
import Derived.Test.YtkfdkjjocdbolaaMsgA
import Derived.Test.YtkfdkjjocdbolaaRowB
import Derived.Test.YtkfdkjjocdbolaaRowE
import Derived.Test.YtkfdkjjocdbolaaOwn
set_option linter.unusedVariables false
set_option linter.unusedSimpArgs false
namespace Go.Proofs.Ytkfdkjjocdbolaa
open Go.RowKit
attribute [local go_sem] GW.cell GW.frozen In.eq_true In.le_true In.ne In.ne' In.ne_add In.ne_add' In.lt_add Upto.le_true Upto.le_add Upto.lt_add
theorem tickB_zero : tickB 0 = true := by decide
/-- The first tick of which it changes something. -/
def msync (k i f t : Int) (l : List Vl) : Int := if mchk k i f t l = 0 then (if k = 2 then t else f) else 0
set_option maxHeartbeats 4000000 in
set_option maxRecDepth 100000 in
theorem sync_c (k i f t : Int) (l : List Vl) (v : Value) (w : World) (hl : Rw w [] v l) : Calls Try.prog 58 #[mg k i f t v] w fun e w' => e = .returned (.int .i64 (msync k i f t l)) ∧ Ext w w' := by
  have hc := hide (fun w' (hX : Ext w w') => check_c k i f t l v w' (Sl.ext hl hX))
  obtain ⟨A, cap, rfl, hlc, hlm, -⟩ := rw_form hl
  have hX0 := hide ((Ext.refl w).alloc (mO k i f t (.slice A l.length cap)))
  unfold msync
  generalize mchk k i f t l = x at *
  clear hl
  by_cases hx : x = 0
  · subst hx
    rw [if_pos rfl]
    by_cases h2 : k = 2
    · subst h2
      rw [if_pos rfl]
      go_enter Try.func58, Try.ntmps58
      go_wp2_with (go_at_call 44; (with_reducible refine seq_gw (hc.out _ hX0.out) ?_); intro g)
      go_returns
      exact ⟨rfl, hX0.out.trans g.grown⟩
    · rw [if_neg h2]
      have e2 : (k == 2) = false := by simp [h2]
      clear h2
      go_enter Try.func58, Try.ntmps58
      go_wp2_with (go_at_call 44; (with_reducible refine seq_gw (hc.out _ hX0.out) ?_); intro g)
      go_returns
      exact ⟨rfl, hX0.out.trans g.grown⟩
  · rw [if_neg hx]
    have e0 : (x != 0) = true := by simp [hx]
    clear hx
    go_enter Try.func58, Try.ntmps58
    go_wp2_with (go_at_call 44; (with_reducible refine seq_gw (hc.out _ hX0.out) ?_); intro g)
    go_returns
    exact ⟨rfl, hX0.out.trans g.grown⟩
def msame (k i f t : Int) (l : List Vl) (k' i' f' t' : Int) (m : List Vl) : Bool := decide (k = k' ∧ i = i' ∧ f = f' ∧ t = t' ∧ l = m)
set_option maxHeartbeats 4000000 in
set_option maxRecDepth 100000 in
theorem begin_c (i f t : Int) (l : List Vl) (v : Value) (w : World) (hl : Rw w [] v l) (hz : l.length * 32 ≤ 140737488351232) : Calls Try.prog 41 #[.int .i64 i, .int .i64 f, .int .i64 t, v] w fun e w' => ∃ v', e = .returned (mg 1 i f t v') ∧ Rw w' [] v' l ∧ Ext w w' := by
  have hc := hide (fun w' (hX : Ext w w') => rowCopy_c l v w' (Sl.ext hl hX) hz)
  have hX0 := hide ((Ext.refl w).alloc (mO 0 0 0 0 (.slice none 0 0)))
  have O0 := hide (Ob.new w 28 [.int .i64 0, .int .i64 0, .int .i64 0, .int .i64 0, .slice none 0 0])
  clear hl
  go_enter Try.func41, Try.ntmps41
  go_wp2_with (go_at_call 29; refine (hc.out _ hX0.out).mono ?_; rintro ee w1 ⟨v1, rfl, ho1, hx1⟩; have O1 := O0.out.ext hx1; have c0 := O1.cell 0 rfl; have c1 := O1.cell 1 rfl; have c2 := O1.cell 2 rfl; have c3 := O1.cell 3 rfl; have c4 := O1.cell 4 rfl; have z0 := O1.free 0; have z1 := O1.free 1; have z2 := O1.free 2; have z3 := O1.free 3; have z4 := O1.free 4; have hlt1 := O1.lt; haveI : In w.heap.size w1 := ⟨hlt1⟩; obtain ⟨A1, cp1, rfl⟩ := own_form ho1)
  refine bodyPost_ret (by simp [results, Try.results41, go_sem, c0, c1, c2, c3, c4]; try rfl) rfl ?_
  have hF := (((((Fr.refl [w.heap.size] w1).setCell ⟨w.heap.size, 0, none⟩ (.int .i64 1) (.inl (by simp))).setCell ⟨w.heap.size, 1, none⟩ (.int .i64 i) (.inl (by simp))).setCell ⟨w.heap.size, 2, none⟩ (.int .i64 f) (.inl (by simp))).setCell ⟨w.heap.size, 3, none⟩ (.int .i64 t) (.inl (by simp))).setCell ⟨w.heap.size, 4, none⟩ (.slice A1 l.length cp1) (.inl (by simp))
  exact ⟨_, rfl, own_rw (S := []) (own_fr ho1 hF (by intro x hx; simp at hx; subst hx; simp)) (by simp), ext_fr (hX0.out.trans hx1) hF (by intro x hx; simp at hx; omega)⟩
theorem mark_c (t : Int) (w : World) : Calls Try.prog 42 #[.int .i64 t] w fun e w' => e = .returned (mg 3 0 t 0 (.slice none 0 0)) ∧ Ext w w' := by
  go_enter Try.func42, Try.ntmps42
  go_wp2_with fail
  go_returns
  exact ⟨rfl, (Ext.refl w).alloc _⟩
end Go.Proofs.Ytkfdkjjocdbolaa
