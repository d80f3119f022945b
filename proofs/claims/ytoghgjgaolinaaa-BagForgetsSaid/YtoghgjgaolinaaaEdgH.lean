/-
  A helper of ours: no claim of its own. Layer 10 (edge): the other sign, what is ahead of a place, what is from one on, by the code.
-/
import Derived.Laws.FloatArith
import Derived.Laws.ComplexArith
import Derived.Test.YtoghgjgaolinaaaRows
import Derived.Test.YtoghgjgaolinaaaGw
import Derived.Handy
import Derived.Test.YtoghgjgaolinaaaEdgG
import Derived.Test.YtoghgjgaolinaaaEdgEn
import Derived.Test.YtoghgjgaolinaaaStepU
import Derived.Test.YtoghgjgaolinaaaStepE
set_option linter.unusedVariables false
namespace Go.Proofs.Ytoghgjgaolinaaa.Floats
open Ieee

/-- The word x stands for the whole number n. -/
def Rep (x : Nat) (n : Int) : Prop :=
  ∃ s M, ∃ d : Nat, double.read x = .number s M (-(d : Int)) ∧ d ≤ 1074 ∧ M = n.natAbs * 2 ^ d ∧ (n ≠ 0 → s = decide (n < 0))

theorem shl (a b : Nat) : a <<< b = a * 2 ^ b := Nat.shiftLeft_eq a b

theorem cut_exact (way : Toward) (neg : Bool) (k d : Nat) : way.cut neg (k * 2 ^ d) d = k := by
  unfold Toward.cut
  by_cases hk : k = 0
  · subst hk; cases way <;> simp [shl]
  · have hpos : 0 < 2 ^ d := Nat.two_pow_pos d
    have hle : 2 ^ d ≤ k * 2 ^ d := Nat.le_mul_of_pos_left _ (by omega)
    have hne : k * 2 ^ d ≠ 0 := by omega
    have hlog : d ≤ (k * 2 ^ d).log2 := (Nat.le_log2 hne).2 hle
    have hmin : min d ((k * 2 ^ d).log2 + 2) = d := by omega
    simp only [hmin, shl, Nat.one_mul, Nat.mul_div_cancel _ hpos, Nat.mul_mod_left]
    cases way <;> simp <;> omega

theorem cut_none (way : Toward) (neg : Bool) (k : Nat) : way.cut neg k 0 = k := by
  have := cut_exact way neg k 0
  simpa using this

theorem log2_mul_pow (a d : Nat) (ha : a ≠ 0) : (a * 2 ^ d).log2 = a.log2 + d := by
  have h1 := Nat.log2_self_le ha
  have h2 : a < 2 ^ (a.log2 + 1) := Nat.lt_log2_self
  have hne : a * 2 ^ d ≠ 0 := Nat.mul_ne_zero ha (Nat.pos_iff_ne_zero.1 (Nat.two_pow_pos d))
  refine Nat.le_antisymm ?_ ?_
  · have : a * 2 ^ d < 2 ^ (a.log2 + 1 + d) := by rw [Nat.pow_add 2 (a.log2 + 1) d]; exact Nat.mul_lt_mul_of_pos_right h2 (Nat.two_pow_pos d)
    have := (Nat.log2_lt hne).2 this
    omega
  · refine (Nat.le_log2 hne).2 ?_
    rw [Nat.pow_add]
    exact Nat.mul_le_mul_right _ h1

theorem rung_facts {B K r : Nat} (h1 : B ≤ K) (h2 : K < 2 * B) (hr : r ≤ 1074) : (r * B + K) % B = K - B ∧ (r * B + K) / B = r + 1 ∧ r * B + K < 2047 * B ∧ B ≤ r * B + K := by
  have hB : 0 < B := by omega
  obtain ⟨k, rfl⟩ : ∃ k, K = B + k := ⟨K - B, by omega⟩
  have e : r * B + (B + k) = k + B * (r + 1) := by rw [Nat.mul_add, Nat.mul_comm]; omega
  refine ⟨?_, ?_, ?_, by omega⟩
  · rw [e, Nat.add_mul_mod_self_left, Nat.mod_eq_of_lt (by omega)]; omega
  · rw [e, Nat.add_mul_div_left _ _ hB, Nat.div_eq_of_lt (by omega)]; omega
  · have := Nat.mul_le_mul_right B (show r + 2 ≤ 2047 by omega)
    rw [Nat.add_mul] at this
    omega
theorem word_mod {S q : Nat} (s : Bool) (h : q < S) : (if s then S + q else q) % S = q := by
  cases s
  · simp [Nat.mod_eq_of_lt h]
  · simp [Nat.add_mod_left, Nat.mod_eq_of_lt h]
theorem word_neg {S q : Nat} (s : Bool) (h : q < S) : ((if s then S + q else q) / S % 2 == 1) = s := by
  cases s
  · simp [Nat.div_eq_of_lt h]
  · have : (S + q) / S = 1 := by rw [Nat.add_div_left _ (by omega), Nat.div_eq_of_lt h]
    simp [this]

/-- What is written of a whole number (as a multiple of some small power of two) is read as it. -/
theorem rep_write (n : Int) (hn : n.natAbs ≤ 2 ^ 52) (d : Nat) (hd : d ≤ 1074) (s : Bool) (hs : n ≠ 0 → s = decide (n < 0)) :
    Rep (double.write (.number s (n.natAbs * 2 ^ d) (-(d : Int)))) n := by
  unfold Rep
  by_cases h0 : n = 0
  · subst h0
    have hz : ∀ k : Nat, 0 = (0 : Int).natAbs * 2 ^ k := fun k => by simp
    refine ⟨s, 0, 1074, ?_, Nat.le_refl _, (hz _ : _), fun h => absurd rfl h⟩
    simp only [Int.natAbs_zero, Nat.zero_mul, Format.write, Format.nearest, if_pos]
    cases s <;> decide +kernel
  · generalize ha : n.natAbs = a at hn
    have ha0 : a ≠ 0 := by omega
    have hlog := log2_mul_pow a d ha0
    have hl52 : a.log2 ≤ 52 := by
      rcases Nat.lt_or_ge 52 a.log2 with h | h
      · exact absurd ((Nat.le_log2 ha0).1 h) (by omega)
      · exact h
    have hm0 : a * 2 ^ d ≠ 0 := Nat.mul_ne_zero ha0 (Nat.pos_iff_ne_zero.1 (Nat.two_pow_pos d))
    have hK1 : 2 ^ 52 ≤ a * 2 ^ (52 - a.log2) := by
      have h1 := Nat.mul_le_mul_right (2 ^ (52 - a.log2)) (Nat.log2_self_le ha0)
      rw [← Nat.pow_add, show a.log2 + (52 - a.log2) = 52 by omega] at h1
      exact h1
    have hK2 : a * 2 ^ (52 - a.log2) < 2 ^ 53 := by
      have h2 : a < 2 ^ (a.log2 + 1) := Nat.lt_log2_self
      have h1 := Nat.mul_lt_mul_of_pos_right h2 (Nat.two_pow_pos (52 - a.log2))
      rw [← Nat.pow_add, show a.log2 + 1 + (52 - a.log2) = 53 by omega] at h1
      exact h1
    -- the last place that is kept
    have hlast : max (-(d : Int) + ((a * 2 ^ d).log2 : Int) - (double.fractionBits : Int)) double.leastPlace = -((52 - a.log2 : Nat) : Int) := by
      rw [hlog]
      show max (-(d : Int) + ((a.log2 + d : Nat) : Int) - ((52 : Nat) : Int)) (-1074) = _
      omega
    refine ⟨s, a * 2 ^ (52 - a.log2), 52 - a.log2, ?_, by omega, rfl, fun _ => hs h0⟩
    simp only [Format.write, Format.nearest]
    rw [if_neg hm0, hlast]
    have hkept : Toward.even.cut s ((a * 2 ^ d) <<< (-(d : Int) - -((52 - a.log2 : Nat) : Int)).toNat) (-((52 - a.log2 : Nat) : Int) - -(d : Int)).toNat = a * 2 ^ (52 - a.log2) := by
      rw [shl]
      rcases Nat.le_total d (52 - a.log2) with h | h
      · rw [show (-(d : Int) - -((52 - a.log2 : Nat) : Int)).toNat = (52 - a.log2) - d by omega, show (-((52 - a.log2 : Nat) : Int) - -(d : Int)).toNat = 0 by omega, cut_none, Nat.mul_assoc, ← Nat.pow_add, show d + (52 - a.log2 - d) = 52 - a.log2 by omega]
      · rw [show (-(d : Int) - -((52 - a.log2 : Nat) : Int)).toNat = 0 by omega, show (-((52 - a.log2 : Nat) : Int) - -(d : Int)).toNat = d - (52 - a.log2) by omega, Nat.pow_zero, Nat.mul_one]
        rw [show a * 2 ^ d = (a * 2 ^ (52 - a.log2)) * 2 ^ (d - (52 - a.log2)) by rw [Nat.mul_assoc, ← Nat.pow_add, show 52 - a.log2 + (d - (52 - a.log2)) = d by omega], cut_exact]
    rw [hkept]
    generalize hK : a * 2 ^ (52 - a.log2) = K at hK1 hK2 ⊢
    generalize hr : (-((52 - a.log2 : Nat) : Int) - double.leastPlace).toNat = r
    have hlp : double.leastPlace = -1074 := by decide +kernel
    have hr' : r = 1074 - (52 - a.log2) := by rw [← hr, hlp]; omega
    have hw : double.signWeight = 2048 * double.binade := by decide +kernel
    have hi : double.infRung = 2047 * double.binade := by decide +kernel
    have hb : double.binade = 2 ^ 52 := rfl
    have hk1 : double.binade ≤ K := by rw [hb]; exact hK1
    have hk2 : K < 2 * double.binade := by rw [hb, show 2 * 2 ^ 52 = 2 ^ 53 by decide]; exact hK2
    obtain ⟨e1, e2, e3, e4⟩ := rung_facts (r := r) hk1 hk2 (by omega)
    simp only [Format.read, Format.word, hi, hw]
    rw [Nat.min_eq_left (Nat.le_of_lt e3)]
    have hq : r * double.binade + K < 2048 * double.binade := Nat.lt_of_lt_of_le e3 (Nat.mul_le_mul_right _ (by omega))
    rw [word_mod s hq, word_neg s hq, if_neg (by omega), if_pos e3, e1, e2, hlp]
    have f1 : double.binade + (K - double.binade) = K := by omega
    have f2 : (-1074 : Int) + ((r + 1 - 1 : Nat) : Int) = -((52 - a.log2 : Nat) : Int) := by omega
    rw [f1, f2]

theorem rep_toInt {x : Nat} {n : Int} (h : Rep x n) : (double.read x).toInt .zero = some n := by
  obtain ⟨s, M, d, hr, hd, hM, hs⟩ := h
  rw [hr, hM]
  simp only [Datum.toInt, Datum.integral]
  rw [show (-(d : Int)).toNat = 0 by omega, show (- -(d : Int)).toNat = d by omega, shl, Nat.pow_zero, Nat.mul_one, cut_exact]
  simp only [signed, shl, Nat.pow_zero, Nat.mul_one, Option.some.injEq]
  by_cases h0 : n = 0
  · subst h0; simp
  · rw [hs h0]
    by_cases hneg : n < 0
    · simp only [hneg, decide_true, if_true]; omega
    · simp only [hneg, decide_false]; simp; omega

theorem signed_rep {n : Int} {s : Bool} {d b : Nat} (hs : n ≠ 0 → s = decide (n < 0)) (hdb : d ≤ b) :
    signed s (n.natAbs * 2 ^ d) (-(d : Int) - -(b : Int)).toNat = n * ((2 ^ b : Nat) : Int) := by
  unfold signed
  rw [show (-(d : Int) - -(b : Int)).toNat = b - d by omega, shl, Nat.mul_assoc, ← Nat.pow_add, show d + (b - d) = b by omega]
  by_cases h0 : n = 0
  · subst h0; simp
  · rw [hs h0]
    by_cases hneg : n < 0
    · simp only [hneg, decide_true, if_true]
      rw [Int.natCast_mul, show ((n.natAbs : Nat) : Int) = -n by omega, Int.neg_mul, Int.neg_neg]
    · simp only [hneg, decide_false]
      rw [if_neg (by simp), Int.natCast_mul, show ((n.natAbs : Nat) : Int) = n by omega]

theorem sum_rep {s t : Bool} {a b : Int} {d e : Nat} (hd : d ≤ 1074) (he : e ≤ 1074) (hs : a ≠ 0 → s = decide (a < 0)) (ht : b ≠ 0 → t = decide (b < 0)) (hab : (a + b).natAbs ≤ 2 ^ 52) :
    ∃ z, ((Datum.number s (a.natAbs * 2 ^ d) (-(d : Int))).sum (Datum.number t (b.natAbs * 2 ^ e) (-(e : Int)))).map double.write = some z ∧ Rep z (a + b) := by
  simp only [Datum.sum]
  have hbase : min (-(d : Int)) (-(e : Int)) = -((max d e : Nat) : Int) := by omega
  rw [hbase, signed_rep hs (by omega), signed_rep ht (by omega), ← Int.add_mul]
  have hp : 0 < ((2 ^ max d e : Nat) : Int) := by exact_mod_cast Nat.two_pow_pos _
  refine ⟨_, rfl, ?_⟩
  rw [Int.natAbs_mul, Int.natAbs_natCast]
  refine rep_write (a + b) hab _ (by omega) _ fun h0 => ?_
  rw [if_neg (by intro h; rcases Int.mul_eq_zero.1 h with h | h <;> omega)]
  congr 1
  refine propext ⟨fun h => ?_, fun h => ?_⟩
  · rcases Int.lt_or_le (a + b) 0 with h' | h'
    · exact h'
    · have := Int.mul_nonneg h' (Int.le_of_lt hp); omega
  · exact Int.mul_neg_of_neg_of_pos h hp

theorem add_rep {x y : Nat} {a b : Int} (hx : Rep x a) (hy : Rep y b) (hab : (a + b).natAbs ≤ 2 ^ 52) : ∃ z, floatBits .add .f64 x y = some z ∧ Rep z (a + b) := by
  obtain ⟨s, M, d, hr, hd, rfl, hs⟩ := hx
  obtain ⟨t, M', e, hr', he, rfl, ht⟩ := hy
  obtain ⟨z, hz, hz'⟩ := sum_rep hd he hs ht hab
  refine ⟨z, ?_, hz'⟩
  simp only [floatBits]
  show double.add x y = some z
  simp only [Format.add, hr, hr', hz]

theorem sub_rep {x y : Nat} {a b : Int} (hx : Rep x a) (hy : Rep y b) (hab : (a - b).natAbs ≤ 2 ^ 52) : ∃ z, floatBits .sub .f64 x y = some z ∧ Rep z (a - b) := by
  obtain ⟨s, M, d, hr, hd, rfl, hs⟩ := hx
  obtain ⟨t, M', e, hr', he, rfl, ht⟩ := hy
  have ht' : -b ≠ 0 → (!t) = decide (-b < 0) := fun h => by
    rw [ht (by omega)]
    by_cases hb : b < 0
    · simp only [hb, decide_true, Bool.not_true]; symm; simp; omega
    · simp only [hb, decide_false, Bool.not_false]; symm; simp; omega
  obtain ⟨z, hz, hz'⟩ := sum_rep (a := a) (b := -b) hd he hs ht' (by rw [← Int.sub_eq_add_neg]; exact hab)
  refine ⟨z, ?_, by rw [Int.sub_eq_add_neg]; exact hz'⟩
  simp only [floatBits]
  show double.sub x y = some z
  simp only [Format.sub, hr, hr', Datum.opposite]
  rw [Int.natAbs_neg] at hz
  exact hz

/-- 'float64(n)'. -/
theorem ofInt_rep (n : Int) (hn : n.natAbs ≤ 2 ^ 52) : Rep (floatOfInt .f64 n) n := by
  have := rep_write n hn 0 (by omega) (decide (n < 0)) (fun _ => rfl)
  rw [Nat.pow_zero, Nat.mul_one] at this
  exact this

/-- 'int(x)'. -/
theorem toInt_rep {x : Nat} {n : Int} (h : Rep x n) (hn : n.natAbs ≤ 2 ^ 52) : floatToIntVal .f64 x .i64 = some n := by
  unfold floatToIntVal
  rw [show FloatKind.f64.decode x = double.read x from rfl, rep_toInt h]
  have h1 : IntKind.i64.min = -9223372036854775808 := by decide +kernel
  have h2 : IntKind.i64.max = 9223372036854775807 := by decide +kernel
  simp only [h1, h2]
  rw [if_pos (by omega)]
end Go.Proofs.Ytoghgjgaolinaaa.Floats
set_option linter.unusedVariables false
set_option linter.unusedSimpArgs false
namespace Go.Proofs.Ytoghgjgaolinaaa
open Go.RowKit
attribute [local go_sem] GW.cell GW.frozen In.eq_true In.le_true In.ne In.ne' In.ne_add In.ne_add' In.lt_add Upto.le_true Upto.le_add Upto.lt_add


def isTickB (t : Int) : Bool := decide (0 ≤ t) && decide (t ≤ 1125899906842624)
def smayB (a b : Int) : Bool := isTickB a && isTickB b && decide (a < b)
/-- A number, if there is one. -/
def okF (ok : Bool) (a : Int) : Int := if ok then a else 0
def mkE (a b : Int) : Int := if isTickB a && isTickB b then (if a < b then 0 else 14) else 13
def hasB (a b t : Int) : Bool := smayB a b && decide (a ≤ t) && decide (t < b)

theorem mayB_lt {a b : Int} (h : smayB a b = true) : a < b ∧ 0 ≤ a ∧ a ≤ 1125899906842624 ∧ 0 ≤ b ∧ b ≤ 1125899906842624 := by
  simp [smayB, isTickB] at h; omega
theorem mayB_mk {a b : Int} (h : a < b ∧ 0 ≤ a ∧ a ≤ 1125899906842624 ∧ 0 ≤ b ∧ b ≤ 1125899906842624) : smayB a b = true := by
  simp [smayB, isTickB]; omega

theorem isTick_c (t : Int) (w : World) : Calls Try.prog 168 #[.int .i64 t] w fun e w' => e = .returned (.bool (isTickB t)) ∧ w = w' := by
  by_cases h0 : 0 ≤ t <;> by_cases h1 : t ≤ 1125899906842624
  all_goals
    go_enter Try.func168, Try.ntmps168
    go_wp2_with fail
    all_goals
      go_returns
      refine ⟨by first | rfl | (simp [isTickB, h0, h1]; done) | (simp [isTickB, h0, h1]; omega), ?_⟩
      exact rfl


theorem smay_c (a b : Int) (w : World) : Calls Try.prog 154 #[.agg #[.int .i64 (a), .int .i64 (b)]] w fun e w' => e = .returned (.bool (smayB a b)) ∧ Ext w w' := by
  cases h0 : isTickB a <;> cases h1 : isTickB b <;> by_cases h2 : a < b
  all_goals
    go_enter Try.func154, Try.ntmps154
    go_wp2_with (go_at_call 168; refine (isTick_c _ _).mono ?_; rintro e w' ⟨rfl, rfl⟩)
    all_goals
      go_returns
      refine ⟨by first | rfl | (simp [smayB, h0, h1, h2]; done) | (simp [smayB, h0, h1, h2]; omega), ?_⟩
      repeat (first | exact Ext.refl _ | with_reducible assumption | refine Ext.alloc ?_ _ | refine Ext.drew ?_ | refine Ext.drewN ?_ _ | refine ext_gw ?_ _ | refine Ext.setCell ?_ (by first | (simp; done) | (simp [Upto.le_true, Upto.le_add]; done) | (simp; omega)) _)







theorem unless_c (a b : Int) (w : World) : Calls Try.prog 155 #[.int .i64 a, .int .i64 b] w fun e w' => e = .returned (.tuple #[.agg #[.int .i64 (okF (decide (a < b)) (a)), .int .i64 (okF (decide (a < b)) (b))], .bool (decide (a < b))]) ∧ Ext w w' := by
  by_cases h : a < b
  all_goals
    go_enter Try.func155, Try.ntmps155
    go_wp2_with fail
    all_goals
      go_returns
      refine ⟨by first | rfl | (simp [okF, h]; done) | (simp [okF, h]; omega), ?_⟩
      repeat (first | exact Ext.refl _ | with_reducible assumption | refine Ext.alloc ?_ _ | refine Ext.drew ?_ | refine Ext.drewN ?_ _ | refine ext_gw ?_ _ | refine Ext.setCell ?_ (by first | (simp; done) | (simp [Upto.le_true, Upto.le_add]; done) | (simp; omega)) _)

def meetB (a b c d : Int) : Bool := smayB a b && smayB c d && decide (max a c < min b d)
def aheadB (a b t : Int) : Bool := smayB a b && decide (a < t)
def restB (a b t : Int) : Bool := smayB a b && decide (t < b)


theorem ahead_c (a b t : Int) (w : World) : Calls Try.prog 119 #[.agg #[.int .i64 (a), .int .i64 (b)], .int .i64 t] w fun e w' => e = .returned (.tuple #[.agg #[.int .i64 (okF (aheadB a b t) (a)), .int .i64 (okF (aheadB a b t) (min b t))], .bool (aheadB a b t)]) ∧ Ext w w' := by
  cases h0 : smayB a b
  · go_enter Try.func119, Try.ntmps119
    go_wp2_with (first | (go_at_call 154; (first | refine seq_gw' (smay_c _ _ _) ?_ | refine seq_gw (smay_c _ _ _) ?_); intro g) | (go_at_call 155; (first | refine seq_gw' (unless_c _ _ _) ?_ | refine seq_gw (unless_c _ _ _) ?_); intro g))
    all_goals
      go_returns
      refine ⟨by first | rfl | (simp [aheadB, okF, *]; done) | (simp [aheadB, okF, *]; omega), ?_⟩
      repeat (first | exact Ext.refl _ | with_reducible assumption | refine Ext.alloc ?_ _ | refine Ext.drew ?_ | refine Ext.drewN ?_ _ | refine ext_gw ?_ _ | refine Ext.setCell ?_ (by first | (simp; done) | (simp [Upto.le_true, Upto.le_add]; done) | (simp; omega)) _)
  obtain ⟨l1, l2, l3, l4, l5⟩ := mayB_lt h0
  by_cases h1 : a < t
  · go_enter Try.func119, Try.ntmps119
    go_wp2_with (first | (go_at_call 154; (first | refine seq_gw' (smay_c _ _ _) ?_ | refine seq_gw (smay_c _ _ _) ?_); intro g) | (go_at_call 155; (first | refine seq_gw' (unless_c _ _ _) ?_ | refine seq_gw (unless_c _ _ _) ?_); intro g))
    all_goals
      go_returns
      refine ⟨by first | rfl | (simp [aheadB, okF, *]; done) | (simp [aheadB, okF, *]; omega), ?_⟩
      repeat (first | exact Ext.refl _ | with_reducible assumption | refine Ext.alloc ?_ _ | refine Ext.drew ?_ | refine Ext.drewN ?_ _ | refine ext_gw ?_ _ | refine Ext.setCell ?_ (by first | (simp; done) | (simp [Upto.le_true, Upto.le_add]; done) | (simp; omega)) _)
  go_enter Try.func119, Try.ntmps119
  go_wp2_with (first | (go_at_call 154; (first | refine seq_gw' (smay_c _ _ _) ?_ | refine seq_gw (smay_c _ _ _) ?_); intro g) | (go_at_call 155; (first | refine seq_gw' (unless_c _ _ _) ?_ | refine seq_gw (unless_c _ _ _) ?_); intro g))
  all_goals
    go_returns
    refine ⟨by first | rfl | (simp [aheadB, okF, *]; done) | (simp [aheadB, okF, *]; omega), ?_⟩
    repeat (first | exact Ext.refl _ | with_reducible assumption | refine Ext.alloc ?_ _ | refine Ext.drew ?_ | refine Ext.drewN ?_ _ | refine ext_gw ?_ _ | refine Ext.setCell ?_ (by first | (simp; done) | (simp [Upto.le_true, Upto.le_add]; done) | (simp; omega)) _)




end Go.Proofs.Ytoghgjgaolinaaa
set_option linter.unusedVariables false
set_option linter.unusedSimpArgs false
namespace Go.Proofs.Ytoghgjgaolinaaa
open Go.RowKit
attribute [local go_sem] GW.cell GW.frozen In.eq_true In.le_true In.ne In.ne' In.ne_add In.ne_add' In.lt_add Upto.le_true Upto.le_add Upto.lt_add
theorem jmps_le (l : List Ed) (r : List Vl) : (jmps l r).length ≤ l.length := by unfold jmps; rw [List.length_map]; exact List.length_filter_le _ _
theorem mayE_len {l : List Ed} (h : mayE l = true) : l.length ≤ 4096 := (mayE_iff.1 h).1
theorem mayE_jl {l : List Ed} (h : mayE l = true) (r : List Vl) : (jmps l r).length ≤ 1024 := by
  obtain ⟨-, h2, h3⟩ := mayE_iff.1 h
  obtain ⟨-, k2⟩ := rowsL_ok h2.1
  by_cases hr : r ∈ rowsL l
  · have := h3 (r, jmps l r) (by rw [grp_eq h2]; exact List.mem_map.2 ⟨r, hr, rfl⟩)
    exact mayJ_len this
  · have : jmps l r = [] := by
      apply List.eq_nil_iff_forall_not_mem.2
      intro j hj
      exact hr ((k2 r).2 ⟨_, jmps_mem.1 hj, rfl⟩)
    rw [this]; simp
theorem lit2 (u : Value) (r : List Vl) (j k : Jp) (w : World) (h : Rw w [] u r) : Ew (w.alloc (.cells #[u, .int .i64 j.1, .int .i64 j.2, u, .int .i64 k.1, .int .i64 k.2] 36)) [] (.slice (some ⟨w.heap.size, 0, none⟩) 2 2) [(u, r, j), (u, r, k)] := by
  refine ⟨Sl.own (World.ownsRow_lit (base := w.heap.size) (e := 36) (size := 3) w #[u, .int .i64 j.1, .int .i64 j.2, u, .int .i64 k.1, .int .i64 k.2] 2 (Nat.le_refl _) (by decide) rfl) (by simp), fun p hp => ?_⟩
  simp only [List.mem_cons, List.not_mem_nil, or_false] at hp
  rcases hp with rfl | rfl <;> exact Sl.ext h ((Ext.refl w).alloc _)
/-- A row once, from one tick to another. -/
def ofE (r : List Vl) (f t : Int) : Int := if mayR r then (if smayB f t then neE [(r, (f, 1)), (r, (t, -1))] else 14) else 2
def ofR (r : List Vl) (f t : Int) : List Ed := if ofE r f t = 0 then neR [(r, (f, 1)), (r, (t, -1))] else []
theorem neR_bad {l : List Ed} (h : neE l ≠ 0) : neR l = [] := by unfold neR; rw [if_neg h]
/-- A sum. -/
def adE (a b : List Ed) : Int := if mayE a && mayE b then neE (a ++ b) else 2
def adR (a b : List Ed) : List Ed := if adE a b = 0 then neR (a ++ b) else []
end Go.Proofs.Ytoghgjgaolinaaa
set_option linter.unusedVariables false
set_option linter.unusedSimpArgs false
namespace Go.Proofs.Ytoghgjgaolinaaa
open Go.RowKit
attribute [local go_sem] GW.cell GW.frozen In.eq_true In.le_true In.ne In.ne' In.ne_add In.ne_add' In.lt_add Upto.le_true Upto.le_add Upto.lt_add Oper.semAt_some wide_depth wide_fn
def ngOp (f : List Jp) : Int × List Jp := (ngE f, ngR f)
theorem ngOp_len (f : List Jp) : (ngOp f).2.length ≤ 1024 := by
  unfold ngOp ngR
  simp only
  split
  · rename_i h; unfold ngL; rw [List.length_map]; exact mayJ_len h
  · simp
end Go.Proofs.Ytoghgjgaolinaaa
set_option linter.unusedVariables false
set_option linter.unusedSimpArgs false
namespace Go.Proofs.Ytoghgjgaolinaaa
open Go.RowKit
attribute [local go_sem] GW.cell GW.frozen In.eq_true In.le_true In.ne In.ne' In.ne_add In.ne_add' In.lt_add Upto.le_true Upto.le_add Upto.lt_add Oper.semAt_some wide_depth wide_fn
def ahOp (t : Int) (f : List Jp) : Int × List Jp := (ahE f t, ahR f t)
theorem ahOp_len (t : Int) (f : List Jp) : (ahOp t f).2.length ≤ 1024 := by
  unfold ahOp ahR
  simp only
  split
  · rename_i h
    exact mayJ_len (ahE_zero.1 h).2
  · simp
end Go.Proofs.Ytoghgjgaolinaaa
set_option linter.unusedVariables false
set_option linter.unusedSimpArgs false
namespace Go.Proofs.Ytoghgjgaolinaaa
open Go.RowKit
attribute [local go_sem] GW.cell GW.frozen In.eq_true In.le_true In.ne In.ne' In.ne_add In.ne_add' In.lt_add Upto.le_true Upto.le_add Upto.lt_add Oper.semAt_some wide_depth wide_fn
def reOp (t : Int) (f : List Jp) : Int × List Jp := (reE f t, reR f t)
theorem reOp_len (t : Int) (f : List Jp) : (reOp t f).2.length ≤ 1024 := by
  unfold reOp reR
  simp only
  split
  · rename_i h
    exact mayJ_len (reE_zero.1 h).2
  · simp
end Go.Proofs.Ytoghgjgaolinaaa
set_option linter.unusedVariables false
set_option linter.unusedSimpArgs false
namespace Go.Proofs.Ytoghgjgaolinaaa
open Go.RowKit
attribute [local go_sem] GW.cell GW.frozen In.eq_true In.le_true In.ne In.ne' In.ne_add In.ne_add' In.lt_add Upto.le_true Upto.le_add Upto.lt_add
/-- What is made of each row's jumps, of edges in form. -/
def mpE (op : List Jp → Int × List Jp) (l : List Ed) : Int := if mayE l then eachE op (grp l) else 2
def mpR (op : List Jp → Int × List Jp) (l : List Ed) : List Ed := if mayE l then eachR op (grp l) else []
theorem grp_r8 {l : List Ed} (h : mayE l = true) : ∀ g ∈ grp l, g.1.length ≤ 8 := fun g hg => by
  obtain ⟨k1, k2, k3⟩ := grp_rows (mayE_rise h)
  obtain ⟨e, he, hee⟩ := (k2 g.1).1 (List.mem_map.2 ⟨g, hg, rfl⟩)
  rw [← hee]
  exact mayR_len ((mayE_rise h).1 e he)
end Go.Proofs.Ytoghgjgaolinaaa
