/-
  A helper of ours: no claim of its own. Layer 28 (hop): sizes, ticks, the first window that is not closed, by the code and by the document.
-/
import Derived.Test.YtljkneajdndgjaaGreatNumF
set_option linter.unusedVariables false
set_option linter.unusedSimpArgs false
namespace Go.Proofs.YtljkneajdndgjaaGreat
open Go.RowKit
attribute [local go_sem] GW.cell GW.frozen In.eq_true In.le_true In.ne In.ne' In.ne_add In.ne_add' In.lt_add Upto.le_true Upto.le_add Upto.lt_add
abbrev I64 (n : Int) : Prop := -9223372036854775808 ≤ n ∧ n ≤ 9223372036854775807
/-- What may be a size or a hop; what is a tick. -/
def hlen (n : Int) : Bool := decide (1 ≤ n) && decide (n ≤ 1099511627776)
def htick (n : Int) : Bool := decide (0 ≤ n) && decide (n ≤ 1125899906842624)
theorem hlen_iff {n : Int} : hlen n = true ↔ 1 ≤ n ∧ n ≤ 1099511627776 := by unfold hlen; simp
theorem htick_iff {n : Int} : htick n = true ↔ 0 ≤ n ∧ n ≤ 1125899906842624 := by unfold htick; simp
/-- How many hops ahead of a place, made up to a whole one. -/
def hcnt (h x : Int) : Int := if x ≤ 0 then 0 else (x - 1) / h + 1
def hbeg (h x : Int) : Int := if hcnt h x * h < 1125899906842624 then hcnt h x * h else 1125899906842624
theorem hcnt_up {h x : Int} (hh : 1 ≤ h) (hx : 0 < x) : hcnt h x = x / h + (if 0 < x % h then 1 else 0) := by
  unfold hcnt
  rw [if_neg (by omega)]
  have e1 := Int.mul_ediv_add_emod x h
  have e2 := Int.emod_nonneg x (b := h) (by omega)
  have e3 := Int.emod_lt_of_pos x (b := h) (by omega)
  split
  · have : x - 1 = (x % h - 1) + h * (x / h) := by omega
    rw [this, Int.add_mul_ediv_left _ _ (by omega), Int.ediv_eq_zero_of_lt (by omega) (by omega)]
    omega
  · have : x - 1 = (h - 1) + h * (x / h - 1) := by rw [Int.mul_sub]; omega
    rw [this, Int.add_mul_ediv_left _ _ (by omega), Int.ediv_eq_zero_of_lt (by omega) (by omega)]
    omega
theorem hcnt_in {h x : Int} (hh : 1 ≤ h) : 0 ≤ hcnt h x ∧ x ≤ hcnt h x * h ∧ (0 < x → hcnt h x * h < x + h) ∧ (x ≤ 0 → hcnt h x = 0) := by
  unfold hcnt
  split
  · simp; omega
  · have e1 := Int.mul_ediv_add_emod (x - 1) h
    have e2 := Int.emod_nonneg (x - 1) (b := h) (by omega)
    have e3 := Int.emod_lt_of_pos (x - 1) (b := h) (by omega)
    have e4 : 0 ≤ (x - 1) / h := Int.ediv_nonneg (by omega) (by omega)
    rw [Int.add_mul, Int.mul_comm]
    omega
theorem isLength_c (n : Int) (w : World) : Calls Tryz.prog 85 #[.int .i64 n] w fun e w' => e = .returned (.bool (hlen n)) ∧ Ext w w' := by
  by_cases h0 : 1 ≤ n <;> by_cases h1 : n ≤ 1099511627776
  all_goals
    go_enter Tryz.func85, Tryz.ntmps85
    go_wp2_with fail
    go_returns
    exact ⟨by first | rfl | (simp [hlen, h0, h1]; done) | (simp [hlen]; omega), Ext.refl _⟩
theorem hisTick_c (n : Int) (w : World) : Calls Tryz.prog 86 #[.int .i64 n] w fun e w' => e = .returned (.bool (htick n)) ∧ Ext w w' := by
  by_cases h0 : 0 ≤ n <;> by_cases h1 : n ≤ 1125899906842624
  all_goals
    go_enter Tryz.func86, Tryz.ntmps86
    go_wp2_with fail
    go_returns
    exact ⟨by first | rfl | (simp [htick, h0, h1]; done) | (simp [htick]; omega), Ext.refl _⟩
theorem hrefTick_c (n : Int) (w : World) : Calls Tryz.prog 63 #[.int .i64 n] w fun e w' => e = .returned (.bool (htick n)) ∧ Ext w w' := by
  by_cases h0 : 0 ≤ n <;> by_cases h1 : n ≤ 1125899906842624
  all_goals
    go_enter Tryz.func63, Tryz.ntmps63
    go_wp2_with fail
    go_returns
    exact ⟨by first | rfl | (simp [htick, h0, h1]; done) | (simp [htick]; omega), Ext.refl _⟩
theorem hrefMay_c (s h : Int) (w : World) : Calls Tryz.prog 39 #[.int .i64 s, .int .i64 h] w fun e w' => e = .returned (.bool (hlen s && hlen h)) ∧ Ext w w' := by
  by_cases h0 : 0 < s <;> by_cases h1 : s ≤ 1099511627776 <;> by_cases h2 : 0 < h <;> by_cases h3 : h ≤ 1099511627776
  all_goals
    go_enter Tryz.func39, Tryz.ntmps39
    go_wp2_with fail
    go_returns
    exact ⟨by first | rfl | (simp [hlen, h0, h1, h2, h3]; done) | (simp [hlen]; omega), Ext.refl _⟩
/-- Where a window ends. -/
def hend (s t : Int) : Int := if 1125899906842624 < t + s then 1125899906842624 else t + s
theorem hrefEnd_c (s t : Int) (hb : I64 (t + s)) (w : World) : Calls Tryz.prog 69 #[.int .i64 s, .int .i64 t] w fun e w' => e = .returned (.int .i64 (hend s t)) ∧ Ext w w' := by
  obtain ⟨b1, b2⟩ := hb
  unfold hend
  by_cases h0 : 1125899906842624 < t + s
  · rw [if_pos h0]
    go_enter Tryz.func69, Tryz.ntmps69
    go_wp2_with fail
    go_returns
    exact ⟨rfl, Ext.refl _⟩
  · rw [if_neg h0]
    go_enter Tryz.func69, Tryz.ntmps69
    go_wp2_with fail
    go_returns
    exact ⟨rfl, Ext.refl _⟩
set_option maxHeartbeats 2000000 in
set_option maxRecDepth 100000 in
theorem beginning_c (h x : Int) (hh : hlen h = true) (hx : -4503599627370496 ≤ x ∧ x ≤ 4503599627370496) (w : World) : Calls Tryz.prog 87 #[.int .i64 h, .int .i64 x] w fun e w' => e = .returned (.int .i64 (hbeg h x)) ∧ Ext w w' := by
  obtain ⟨h1, h2⟩ := hlen_iff.1 hh
  obtain ⟨x1, x2⟩ := hx
  have hin := hcnt_in (h := h) (x := x) h1
  by_cases hp : 0 < x
  · have hm : max x 0 = x := by omega
    have hu := hcnt_up h1 hp
    have hf := fun w => floor_c x h (by omega) (by omega) w
    unfold flQ flR flE at hf
    rw [if_neg (by omega), if_neg (by omega), if_neg (by omega)] at hf
    have q1 : 0 ≤ x / h := Int.ediv_nonneg (by omega) (by omega)
    have q2 : x / h ≤ x := Int.ediv_le_self _ (by omega)
    have q3 := Int.emod_nonneg x (b := h) (by omega)
    obtain ⟨P, hP⟩ : ∃ P, hcnt h x * h = P := ⟨_, rfl⟩
    have hp1 := hin.2.1
    have hp2 := hin.2.2.1 hp
    rw [hP] at hp1 hp2
    unfold hbeg
    rw [hP]
    replace hf := hide hf
    clear hin
    by_cases hr : 0 < x % h
    · rw [if_pos hr] at hu
      rw [hu] at hP
      generalize x / h = Q at *
      generalize x % h = R at *
      clear hu
      by_cases hF : P < 1125899906842624
      · rw [if_pos hF]
        go_enter Tryz.func87, Tryz.ntmps87
        go_wp2_with (go_at_call 135; (with_reducible refine seq_gw (hf.out _) ?_); intro g)
        all_goals (go_returns; exact ⟨by first | rfl | (simp; done) | (simp; omega), g.grown⟩)
      · rw [if_neg hF]
        go_enter Tryz.func87, Tryz.ntmps87
        go_wp2_with (go_at_call 135; (with_reducible refine seq_gw (hf.out _) ?_); intro g)
        all_goals (go_returns; exact ⟨by first | rfl | (simp; done) | (simp; omega), g.grown⟩)
    · rw [if_neg hr, Int.add_zero] at hu
      rw [hu] at hP
      generalize x / h = Q at *
      generalize x % h = R at *
      clear hu
      by_cases hF : P < 1125899906842624
      · rw [if_pos hF]
        go_enter Tryz.func87, Tryz.ntmps87
        go_wp2_with (go_at_call 135; (with_reducible refine seq_gw (hf.out _) ?_); intro g)
        all_goals (go_returns; exact ⟨by first | rfl | (simp; done) | (simp; omega), g.grown⟩)
      · rw [if_neg hF]
        go_enter Tryz.func87, Tryz.ntmps87
        go_wp2_with (go_at_call 135; (with_reducible refine seq_gw (hf.out _) ?_); intro g)
        all_goals (go_returns; exact ⟨by first | rfl | (simp; done) | (simp; omega), g.grown⟩)
  · have hm : max x 0 = 0 := by omega
    have hz : hbeg h x = 0 := by unfold hbeg; rw [hin.2.2.2 (by omega)]; simp
    have hf := fun w => floor_c 0 h (by omega) (by omega) w
    unfold flQ flR flE at hf
    rw [if_neg (by omega), if_neg (by omega), if_neg (by omega), Int.zero_ediv, Int.zero_emod] at hf
    rw [hz]
    replace hf := hide hf
    clear hin hz hm
    rcases Int.lt_or_eq_of_le (show x ≤ 0 by omega) with hx0 | rfl
    all_goals
      go_enter Tryz.func87, Tryz.ntmps87
      go_wp2_with (go_at_call 135; (try rw [show max x 0 = 0 by omega]); (with_reducible refine seq_gw (hf.out _) ?_); intro g)
      all_goals (go_returns; exact ⟨by first | rfl | (simp; done) | (simp; omega), g.grown⟩)
end Go.Proofs.YtljkneajdndgjaaGreat
