/-
  A helper of ours: no claim of its own. Layer 28 (hop): sizes, ticks, the first window that is not closed, by the code and by the document.
-/
import Derived.Test.YtjdbjnpomndfjaaRows
import Derived.Test.YtjdbjnpomndfjaaGw
import Derived.Handy
import Derived.WalkSmall
set_option linter.unusedVariables false
set_option linter.unusedSimpArgs false
namespace Go.Proofs.Ytjdbjnpomndfjaa
open Go.RowKit
attribute [local go_sem] GW.cell GW.frozen In.eq_true In.le_true In.ne In.ne' In.ne_add In.ne_add' In.lt_add Upto.le_true Upto.le_add Upto.lt_add


def flQ (a b : Int) : Int := if b < 1 then 0 else a / b
def flR (a b : Int) : Int := if b < 1 then 0 else a % b
def flE (b : Int) : Int := if b < 1 then 2 else 0

theorem tdiv_abs (a b : Int) : (a.tdiv b).natAbs ≤ a.natAbs := by
  rw [Int.natAbs_tdiv]; exact Nat.div_le_self _ _
theorem tdiv_in {a b : Int} (ha : -9223372036854775808 ≤ a ∧ a ≤ 9223372036854775807) (h : ¬ (a = -9223372036854775808 ∧ b = -1)) : -9223372036854775808 ≤ a.tdiv b ∧ a.tdiv b ≤ 9223372036854775807 := by
  have h1 := tdiv_abs a b
  by_cases hb : b = 0
  · subst hb; simp
  by_cases e : a.tdiv b = 9223372036854775808
  · exfalso
    have ha' : a.natAbs = 9223372036854775808 := by rw [e] at h1; omega
    have ha2 : a = -9223372036854775808 := by omega
    have h2 : (a.tdiv b).natAbs = a.natAbs / b.natAbs := Int.natAbs_tdiv a b
    rw [e, ha'] at h2
    have h3 : b.natAbs = 1 := by
      rcases Nat.lt_or_ge 1 b.natAbs with h | h
      · have := Nat.div_lt_self (n := 9223372036854775808) (by omega) h; omega
      · omega
    have : b = 1 ∨ b = -1 := by omega
    rcases this with rfl | rfl
    · rw [ha2] at e; simp at e
    · exact h ⟨ha2, rfl⟩
  · omega
theorem tmod_abs {a b : Int} (ha : -9223372036854775808 ≤ a ∧ a ≤ 9223372036854775807) : -9223372036854775808 ≤ a.tmod b ∧ a.tmod b ≤ 9223372036854775807 := by
  have h1 : (a.tmod b).natAbs = a.natAbs % b.natAbs := Int.natAbs_tmod a b
  have h2 := Nat.mod_le a.natAbs b.natAbs
  have h3 : 0 ≤ a → 0 ≤ a.tmod b := fun h => Int.tmod_nonneg b h
  have h4 : a ≤ 0 → a.tmod b ≤ 0 := fun h => by
    have := Int.tmod_nonneg b (a := -a) (by omega)
    rw [Int.neg_tmod] at this; omega
  rcases Int.le_total 0 a with h | h
  · have := h3 h; omega
  · have := h4 h; omega
/-- From the quotient that is cut to the one that is not above. -/
theorem floor_neg {a b : Int} (hb : 1 ≤ b) (h : a.tmod b < 0) : a.tdiv b - 1 = a / b ∧ a.tmod b + b = a % b := by
  have h1 := Int.mul_tdiv_add_tmod a b
  have h2 : (a.tmod b).natAbs < b.natAbs := by rw [Int.natAbs_tmod]; exact Nat.mod_lt _ (by omega)
  have e : a = b * (a.tdiv b - 1) + (a.tmod b + b) := by rw [Int.mul_sub]; omega
  have h3 : a % b = a.tmod b + b := by
    conv => lhs; rw [e]
    rw [Int.add_comm, Int.add_mul_emod_self_left]; exact Int.emod_eq_of_lt (by omega) (by omega)
  have h4 := Int.mul_ediv_add_emod a b
  refine ⟨?_, h3.symm⟩
  rw [h3] at h4
  have : b * (a / b) = b * (a.tdiv b - 1) := by omega
  exact (Int.eq_of_mul_eq_mul_left (by omega) this).symm
theorem floor_pos {a b : Int} (hb : 1 ≤ b) (h : 0 ≤ a.tmod b) : a.tdiv b = a / b ∧ a.tmod b = a % b := by
  have h1 := Int.mul_tdiv_add_tmod a b
  have h2 : (a.tmod b).natAbs < b.natAbs := by rw [Int.natAbs_tmod]; exact Nat.mod_lt _ (by omega)
  have h3 : a % b = a.tmod b := by
    conv => lhs; rw [← h1]
    rw [Int.add_comm, Int.add_mul_emod_self_left]; exact Int.emod_eq_of_lt (by omega) (by omega)
  have h4 := Int.mul_ediv_add_emod a b
  refine ⟨?_, h3.symm⟩
  rw [h3] at h4
  have : b * (a / b) = b * a.tdiv b := by omega
  exact (Int.eq_of_mul_eq_mul_left (by omega) this).symm











end Go.Proofs.Ytjdbjnpomndfjaa
set_option linter.unusedVariables false
set_option linter.unusedSimpArgs false
namespace Go.Proofs.Ytjdbjnpomndfjaa
open Go.RowKit
attribute [local go_sem] GW.cell GW.frozen In.eq_true In.le_true In.ne In.ne' In.ne_add In.ne_add' In.lt_add Upto.le_true Upto.le_add Upto.lt_add
set_option maxHeartbeats 2000000 in
theorem floor_c (a b : Int) (ha : -9223372036854775808 ≤ a ∧ a ≤ 9223372036854775807) (hb : -9223372036854775808 ≤ b ∧ b ≤ 9223372036854775807) (w : World) : Calls Try.prog 100 #[.int .i64 a, .int .i64 b] w fun e w' => e = .returned (.tuple #[.int .i64 (flQ a b), .int .i64 (flR a b), .int .i64 (flE b)]) ∧ Ext w w' := by
  by_cases h : b < 1
  · clear ha hb
    go_enter Try.func100, Try.ntmps100
    go_wp2_with fail
    all_goals
      go_returns
      refine ⟨by first | rfl | (simp [flQ, flR, flE, *]; done) | (simp [flQ, flR, flE, *]; omega), ?_⟩
      repeat (first | exact Ext.refl _ | with_reducible assumption | refine Ext.alloc ?_ _ | refine Ext.drew ?_ | refine Ext.drewN ?_ _ | refine ext_gw ?_ _ | refine Ext.setCell ?_ (by first | (simp; done) | (simp [Upto.le_true, Upto.le_add]; done) | (simp; omega)) _)
  have h1 : 1 ≤ b := by omega
  have hi := tdiv_in (b := b) ha (by omega)
  have hj := tmod_abs (b := b) ha
  have hlt : (a.tmod b).natAbs < b.natAbs := by rw [Int.natAbs_tmod]; exact Nat.mod_lt _ (by omega)
  have hz : a.tdiv b = -9223372036854775808 → a.tmod b < 0 → False := fun h2 h3 => by
    have h4 := Int.mul_tdiv_add_tmod a b
    rw [h2] at h4
    omega
  have core : ∀ q r, IntKind.i64.wrap (a.tdiv b) = q → a.tmod b = r → (r < 0 → q - 1 = a / b ∧ r + b = a % b ∧ -9223372036854775807 ≤ q) → (0 ≤ r → q = a / b ∧ r = a % b) → -9223372036854775808 ≤ r ∧ r ≤ 9223372036854775807 → -9223372036854775808 ≤ q ∧ q ≤ 9223372036854775807 →
      Calls Try.prog 100 #[.int .i64 a, .int .i64 b] w fun e w' => e = .returned (.tuple #[.int .i64 (flQ a b), .int .i64 (flR a b), .int .i64 (flE b)]) ∧ Ext w w' := by
    intro q r hq hr n p ir iq
    have e0 : (b == 0) = false := by simp; omega
    have k0 : ¬ b = 0 := by omega
    obtain ⟨ir1, ir2⟩ := ir
    obtain ⟨iq1, iq2⟩ := iq
    obtain ⟨ib1, ib2⟩ := hb
    clear ha hi hj hlt hz
    by_cases hr0 : r < 0
    · obtain ⟨n1, n2, n3⟩ := n hr0
      have hv := hide (show (flQ a b = q - 1 ∧ flR a b = r + b) from ⟨by rw [flQ, if_neg h, n1], by rw [flR, if_neg h, n2]⟩)
      clear n p n1 n2
      go_enter Try.func100, Try.ntmps100
      go_wp2_with fail
      refine wp_region_gw (by kernel_rfl) (by kernel_rfl) ?_
      repeat (go_big_quiet_step (fail))
      refine wpQuiet_nil ?_
      intro g
      go_wp2_with fail
      all_goals
        go_returns
        refine ⟨by rw [hv.out.1, hv.out.2]; first | rfl | (simp [flQ, flR, flE, *]; done) | (simp [flQ, flR, flE, *]; omega), ?_⟩
        repeat (first | exact Ext.refl _ | with_reducible assumption | refine Ext.alloc ?_ _ | refine Ext.drew ?_ | refine Ext.drewN ?_ _ | refine ext_gw ?_ _ | refine Ext.setCell ?_ (by first | (simp; done) | (simp [Upto.le_true, Upto.le_add]; done) | (simp; omega)) _)
    · obtain ⟨n1, n2⟩ := p (by omega)
      have hv := hide (show (flQ a b = q ∧ flR a b = r) from ⟨by rw [flQ, if_neg h, n1], by rw [flR, if_neg h, n2]⟩)
      clear n p n1 n2
      go_enter Try.func100, Try.ntmps100
      go_wp2_with fail
      refine wp_region_gw (by kernel_rfl) (by kernel_rfl) ?_
      repeat (go_big_quiet_step (fail))
      refine wpQuiet_nil ?_
      intro g
      go_wp2_with fail
      all_goals
        go_returns
        refine ⟨by rw [hv.out.1, hv.out.2]; first | rfl | (simp [flQ, flR, flE, *]; done) | (simp [flQ, flR, flE, *]; omega), ?_⟩
        repeat (first | exact Ext.refl _ | with_reducible assumption | refine Ext.alloc ?_ _ | refine Ext.drew ?_ | refine Ext.drewN ?_ _ | refine ext_gw ?_ _ | refine Ext.setCell ?_ (by first | (simp; done) | (simp [Upto.le_true, Upto.le_add]; done) | (simp; omega)) _)
  have ei := IntWalk.i64_in _ hi
  refine core _ _ ei rfl ?_ ?_ hj hi
  · intro h2
    have h4 := floor_neg h1 h2
    have h5 : a.tdiv b ≠ -9223372036854775808 := fun e => hz e h2
    exact ⟨h4.1, h4.2, by omega⟩
  · exact fun h2 => floor_pos h1 h2
end Go.Proofs.Ytjdbjnpomndfjaa
set_option linter.unusedVariables false
set_option linter.unusedSimpArgs false
namespace Go.Proofs.Ytjdbjnpomndfjaa
open Go.RowKit
attribute [local go_sem] GW.cell GW.frozen In.eq_true In.le_true In.ne In.ne' In.ne_add In.ne_add' In.lt_add Upto.le_true Upto.le_add Upto.lt_add
abbrev I64 (n : Int) : Prop := -9223372036854775808 ≤ n ∧ n ≤ 9223372036854775807
/-- What may be a size or a hop; what is a tick. -/
def hlen (n : Int) : Bool := decide (1 ≤ n) && decide (n ≤ 1099511627776)
def htick (n : Int) : Bool := decide (0 ≤ n) && decide (n ≤ 1125899906842624)
theorem hlen_iff {n : Int} : hlen n = true ↔ 1 ≤ n ∧ n ≤ 1099511627776 := by unfold hlen; simp
theorem htick_iff {n : Int} : htick n = true ↔ 0 ≤ n ∧ n ≤ 1125899906842624 := by unfold htick; simp
/-- How many hops ahead of a place, made up to a whole one. -/
def hcnt (h x : Int) : Int := if x ≤ 0 then 0 else (x - 1) / h + 1
def hbeg (h x : Int) : Int := if hcnt h x * h < 1125899906842624 then hcnt h x * h else 1125899906842624
theorem hcnt_up {h x : Int} (hh : 1 ≤ h) (hx : 0 < x) : hcnt h x = x / h + (if 0 < x % h then 1 else 0) := by
  unfold hcnt
  rw [if_neg (by omega)]
  have e1 := Int.mul_ediv_add_emod x h
  have e2 := Int.emod_nonneg x (b := h) (by omega)
  have e3 := Int.emod_lt_of_pos x (b := h) (by omega)
  split
  · have : x - 1 = (x % h - 1) + h * (x / h) := by omega
    rw [this, Int.add_mul_ediv_left _ _ (by omega), Int.ediv_eq_zero_of_lt (by omega) (by omega)]
    omega
  · have : x - 1 = (h - 1) + h * (x / h - 1) := by rw [Int.mul_sub]; omega
    rw [this, Int.add_mul_ediv_left _ _ (by omega), Int.ediv_eq_zero_of_lt (by omega) (by omega)]
    omega
theorem hcnt_in {h x : Int} (hh : 1 ≤ h) : 0 ≤ hcnt h x ∧ x ≤ hcnt h x * h ∧ (0 < x → hcnt h x * h < x + h) ∧ (x ≤ 0 → hcnt h x = 0) := by
  unfold hcnt
  split
  · simp; omega
  · have e1 := Int.mul_ediv_add_emod (x - 1) h
    have e2 := Int.emod_nonneg (x - 1) (b := h) (by omega)
    have e3 := Int.emod_lt_of_pos (x - 1) (b := h) (by omega)
    have e4 : 0 ≤ (x - 1) / h := Int.ediv_nonneg (by omega) (by omega)
    rw [Int.add_mul, Int.mul_comm]
    omega
theorem isLength_c (n : Int) (w : World) : Calls Try.prog 58 #[.int .i64 n] w fun e w' => e = .returned (.bool (hlen n)) ∧ Ext w w' := by
  by_cases h0 : 1 ≤ n <;> by_cases h1 : n ≤ 1099511627776
  all_goals
    go_enter Try.func58, Try.ntmps58
    go_wp2_with fail
    go_returns
    exact ⟨by first | rfl | (simp [hlen, h0, h1]; done) | (simp [hlen]; omega), Ext.refl _⟩
theorem hisTick_c (n : Int) (w : World) : Calls Try.prog 59 #[.int .i64 n] w fun e w' => e = .returned (.bool (htick n)) ∧ Ext w w' := by
  by_cases h0 : 0 ≤ n <;> by_cases h1 : n ≤ 1125899906842624
  all_goals
    go_enter Try.func59, Try.ntmps59
    go_wp2_with fail
    go_returns
    exact ⟨by first | rfl | (simp [htick, h0, h1]; done) | (simp [htick]; omega), Ext.refl _⟩
/-- Where a window ends. -/
def hend (s t : Int) : Int := if 1125899906842624 < t + s then 1125899906842624 else t + s
set_option maxHeartbeats 2000000 in
set_option maxRecDepth 100000 in
theorem beginning_c (h x : Int) (hh : hlen h = true) (hx : -4503599627370496 ≤ x ∧ x ≤ 4503599627370496) (w : World) : Calls Try.prog 60 #[.int .i64 h, .int .i64 x] w fun e w' => e = .returned (.int .i64 (hbeg h x)) ∧ Ext w w' := by
  obtain ⟨h1, h2⟩ := hlen_iff.1 hh
  obtain ⟨x1, x2⟩ := hx
  have hin := hcnt_in (h := h) (x := x) h1
  by_cases hp : 0 < x
  · have hm : max x 0 = x := by omega
    have hu := hcnt_up h1 hp
    have hf := fun w => floor_c x h (by omega) (by omega) w
    unfold flQ flR flE at hf
    rw [if_neg (by omega), if_neg (by omega), if_neg (by omega)] at hf
    have q1 : 0 ≤ x / h := Int.ediv_nonneg (by omega) (by omega)
    have q2 : x / h ≤ x := Int.ediv_le_self _ (by omega)
    have q3 := Int.emod_nonneg x (b := h) (by omega)
    obtain ⟨P, hP⟩ : ∃ P, hcnt h x * h = P := ⟨_, rfl⟩
    have hp1 := hin.2.1
    have hp2 := hin.2.2.1 hp
    rw [hP] at hp1 hp2
    unfold hbeg
    rw [hP]
    replace hf := hide hf
    clear hin
    by_cases hr : 0 < x % h
    · rw [if_pos hr] at hu
      rw [hu] at hP
      generalize x / h = Q at *
      generalize x % h = R at *
      clear hu
      by_cases hF : P < 1125899906842624
      · rw [if_pos hF]
        go_enter Try.func60, Try.ntmps60
        go_wp2_with (go_at_call 100; (with_reducible refine seq_gw (hf.out _) ?_); intro g)
        all_goals (go_returns; exact ⟨by first | rfl | (simp; done) | (simp; omega), g.grown⟩)
      · rw [if_neg hF]
        go_enter Try.func60, Try.ntmps60
        go_wp2_with (go_at_call 100; (with_reducible refine seq_gw (hf.out _) ?_); intro g)
        all_goals (go_returns; exact ⟨by first | rfl | (simp; done) | (simp; omega), g.grown⟩)
    · rw [if_neg hr, Int.add_zero] at hu
      rw [hu] at hP
      generalize x / h = Q at *
      generalize x % h = R at *
      clear hu
      by_cases hF : P < 1125899906842624
      · rw [if_pos hF]
        go_enter Try.func60, Try.ntmps60
        go_wp2_with (go_at_call 100; (with_reducible refine seq_gw (hf.out _) ?_); intro g)
        all_goals (go_returns; exact ⟨by first | rfl | (simp; done) | (simp; omega), g.grown⟩)
      · rw [if_neg hF]
        go_enter Try.func60, Try.ntmps60
        go_wp2_with (go_at_call 100; (with_reducible refine seq_gw (hf.out _) ?_); intro g)
        all_goals (go_returns; exact ⟨by first | rfl | (simp; done) | (simp; omega), g.grown⟩)
  · have hm : max x 0 = 0 := by omega
    have hz : hbeg h x = 0 := by unfold hbeg; rw [hin.2.2.2 (by omega)]; simp
    have hf := fun w => floor_c 0 h (by omega) (by omega) w
    unfold flQ flR flE at hf
    rw [if_neg (by omega), if_neg (by omega), if_neg (by omega), Int.zero_ediv, Int.zero_emod] at hf
    rw [hz]
    replace hf := hide hf
    clear hin hz hm
    rcases Int.lt_or_eq_of_le (show x ≤ 0 by omega) with hx0 | rfl
    all_goals
      go_enter Try.func60, Try.ntmps60
      go_wp2_with (go_at_call 100; (with_reducible refine seq_gw (hf.out _) ?_); intro g)
      all_goals (go_returns; exact ⟨by first | rfl | (simp; done) | (simp; omega), g.grown⟩)
end Go.Proofs.Ytjdbjnpomndfjaa
