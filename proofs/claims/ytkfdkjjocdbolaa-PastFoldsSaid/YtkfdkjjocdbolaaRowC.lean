/-
  A helper of ours: no claim of its own. Layer 6 (row): the order of rows, on both sides.
-/
import Derived.Test.YtkfdkjjocdbolaaRowB
import Derived.Deep.AppendSrc
import Derived.Lib.LazyBuf
import Derived.WalkLawsBesides
set_option linter.unusedVariables false
set_option linter.unusedSimpArgs false
namespace Go.Proofs.Ytkfdkjjocdbolaa
open Go.RowKit
attribute [local go_sem] GW.cell GW.frozen In.eq_true In.le_true In.ne In.ne' In.ne_add In.ne_add' In.lt_add Upto.le_true Upto.le_add Upto.lt_add
theorem nanI_c (n : Int) (w : World) : Calls Try.prog 96 #[.int .i64 n] w fun e w' => e = .returned (.bool false) ∧ Ext w w' := by
  go_enter Try.func96, Try.ntmps96
  go_wp2_with fail
  go_returns
  exact ⟨rfl, Ext.refl w⟩
set_option maxHeartbeats 1000000 in
theorem cmpInt_c (n m : Int) (w : World) : Calls Try.prog 92 #[.int .i64 n, .int .i64 m] w fun e w' => e = .returned (.int .i64 (cmpN n m)) ∧ Ext w w' := by
  obtain ⟨r, hr⟩ : ∃ r, r = cmpN n m := ⟨_, rfl⟩
  rw [← hr]
  unfold cmpN at hr
  by_cases h1 : n < m
  · rw [if_pos h1] at hr
    subst hr
    go_enter Try.func92, Try.ntmps92
    go_wp2_with (go_at_call 96; (first | (with_reducible refine seq_gw' (nanI_c _ _) ?_) | (with_reducible refine seq_gw (nanI_c _ _) ?_)); intro g)
    go_returns
    exact ⟨rfl, g.grown⟩
  · by_cases h2 : m < n
    · rw [if_neg h1, if_pos h2] at hr
      subst hr
      go_enter Try.func92, Try.ntmps92
      go_wp2_with (go_at_call 96; (first | (with_reducible refine seq_gw' (nanI_c _ _) ?_) | (with_reducible refine seq_gw (nanI_c _ _) ?_)); intro g)
      go_returns
      exact ⟨rfl, g.grown⟩
    · rw [if_neg h1, if_neg h2] at hr
      subst hr
      have e : n = m := by omega
      subst e
      go_enter Try.func92, Try.ntmps92
      go_wp2_with (go_at_call 96; (first | (with_reducible refine seq_gw' (nanI_c _ _) ?_) | (with_reducible refine seq_gw (nanI_c _ _) ?_)); intro g)
      go_returns
      exact ⟨rfl, g.grown⟩
/-- How many values both begin with. -/
def pre : List Vl → List Vl → Nat
  | x :: a, y :: b => if x = y then pre a b + 1 else 0
  | _, _ => 0
theorem pre_le : ∀ a b : List Vl, pre a b ≤ a.length ∧ pre a b ≤ b.length
  | [], [] => ⟨Nat.le_refl _, Nat.le_refl _⟩
  | [], _ :: _ => ⟨Nat.le_refl _, Nat.zero_le _⟩
  | _ :: _, [] => ⟨Nat.zero_le _, Nat.le_refl _⟩
  | x :: a, y :: b => by
    simp only [pre, List.length_cons]
    have := pre_le a b
    split <;> omega
theorem cmpT_end : ∀ a b : List Vl, pre a b = min a.length b.length → cmpT a b = cmpN a.length b.length
  | [], [], _ => by simp [cmpT, cmpN]
  | [], _ :: _, _ => by first | (simp [cmpT, cmpN]; done) | (simp [cmpT, cmpN]; omega)
  | _ :: _, [], _ => by first | (simp [cmpT, cmpN]; done) | (simp [cmpT, cmpN]; omega)
  | x :: a, y :: b, h => by
    simp only [pre, cmpT] at h ⊢
    by_cases e : x = y
    · rw [if_pos e] at h ⊢
      rw [cmpT_end a b (by simp only [List.length_cons] at h; omega)]
      simp only [cmpN, List.length_cons]
      split <;> split <;> (try split) <;> (try split) <;> first | rfl | omega
    · rw [if_neg e] at h
      simp only [List.length_cons] at h; omega
theorem cmpT_diff : ∀ a b : List Vl, ∀ x y, a[pre a b]? = some x → b[pre a b]? = some y → cmpT a b = cmpV x y
  | [], _, x, y, hx, _ => by simp at hx
  | _ :: _, [], x, y, _, hy => by simp at hy
  | p :: a, q :: b, x, y, hx, hy => by
    simp only [pre, cmpT] at hx hy ⊢
    by_cases e : p = q
    · rw [if_pos e] at hx hy ⊢
      exact cmpT_diff a b x y (by simpa using hx) (by simpa using hy)
    · rw [if_neg e] at hx hy ⊢
      simp at hx hy
      rw [hx, hy]
section
variable {l m : List Vl} {v u : Value} {w : World}
end
end Go.Proofs.Ytkfdkjjocdbolaa
