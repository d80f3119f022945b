/-
  A helper of ours: no claim of its own. Whole numbers up to 2^52 as float64: what is made of one is read as it, sums and differences that stay in that range are exact.
-/
import Derived.Laws.FloatArith
import Derived.Laws.ComplexArith
set_option linter.unusedVariables false
namespace Go.Proofs.Ytkfdkjjocdbolaa.Floats
open Ieee

/-- The word x stands for the whole number n. -/
def Rep (x : Nat) (n : Int) : Prop :=
  ∃ s M, ∃ d : Nat, double.read x = .number s M (-(d : Int)) ∧ d ≤ 1074 ∧ M = n.natAbs * 2 ^ d ∧ (n ≠ 0 → s = decide (n < 0))

theorem shl (a b : Nat) : a <<< b = a * 2 ^ b := Nat.shiftLeft_eq a b

theorem cut_exact (way : Toward) (neg : Bool) (k d : Nat) : way.cut neg (k * 2 ^ d) d = k := by
  unfold Toward.cut
  by_cases hk : k = 0
  · subst hk; cases way <;> simp [shl]
  · have hpos : 0 < 2 ^ d := Nat.two_pow_pos d
    have hle : 2 ^ d ≤ k * 2 ^ d := Nat.le_mul_of_pos_left _ (by omega)
    have hne : k * 2 ^ d ≠ 0 := by omega
    have hlog : d ≤ (k * 2 ^ d).log2 := (Nat.le_log2 hne).2 hle
    have hmin : min d ((k * 2 ^ d).log2 + 2) = d := by omega
    simp only [hmin, shl, Nat.one_mul, Nat.mul_div_cancel _ hpos, Nat.mul_mod_left]
    cases way <;> simp <;> omega

theorem cut_none (way : Toward) (neg : Bool) (k : Nat) : way.cut neg k 0 = k := by
  have := cut_exact way neg k 0
  simpa using this

theorem log2_mul_pow (a d : Nat) (ha : a ≠ 0) : (a * 2 ^ d).log2 = a.log2 + d := by
  have h1 := Nat.log2_self_le ha
  have h2 : a < 2 ^ (a.log2 + 1) := Nat.lt_log2_self
  have hne : a * 2 ^ d ≠ 0 := Nat.mul_ne_zero ha (Nat.pos_iff_ne_zero.1 (Nat.two_pow_pos d))
  refine Nat.le_antisymm ?_ ?_
  · have : a * 2 ^ d < 2 ^ (a.log2 + 1 + d) := by rw [Nat.pow_add 2 (a.log2 + 1) d]; exact Nat.mul_lt_mul_of_pos_right h2 (Nat.two_pow_pos d)
    have := (Nat.log2_lt hne).2 this
    omega
  · refine (Nat.le_log2 hne).2 ?_
    rw [Nat.pow_add]
    exact Nat.mul_le_mul_right _ h1

theorem rung_facts {B K r : Nat} (h1 : B ≤ K) (h2 : K < 2 * B) (hr : r ≤ 1074) : (r * B + K) % B = K - B ∧ (r * B + K) / B = r + 1 ∧ r * B + K < 2047 * B ∧ B ≤ r * B + K := by
  have hB : 0 < B := by omega
  obtain ⟨k, rfl⟩ : ∃ k, K = B + k := ⟨K - B, by omega⟩
  have e : r * B + (B + k) = k + B * (r + 1) := by rw [Nat.mul_add, Nat.mul_comm]; omega
  refine ⟨?_, ?_, ?_, by omega⟩
  · rw [e, Nat.add_mul_mod_self_left, Nat.mod_eq_of_lt (by omega)]; omega
  · rw [e, Nat.add_mul_div_left _ _ hB, Nat.div_eq_of_lt (by omega)]; omega
  · have := Nat.mul_le_mul_right B (show r + 2 ≤ 2047 by omega)
    rw [Nat.add_mul] at this
    omega
theorem word_mod {S q : Nat} (s : Bool) (h : q < S) : (if s then S + q else q) % S = q := by
  cases s
  · simp [Nat.mod_eq_of_lt h]
  · simp [Nat.add_mod_left, Nat.mod_eq_of_lt h]
theorem word_neg {S q : Nat} (s : Bool) (h : q < S) : ((if s then S + q else q) / S % 2 == 1) = s := by
  cases s
  · simp [Nat.div_eq_of_lt h]
  · have : (S + q) / S = 1 := by rw [Nat.add_div_left _ (by omega), Nat.div_eq_of_lt h]
    simp [this]

/-- What is written of a whole number (as a multiple of some small power of two) is read as it. -/
theorem rep_write (n : Int) (hn : n.natAbs ≤ 2 ^ 52) (d : Nat) (s : Bool) (hs : n ≠ 0 → s = decide (n < 0)) :
    Rep (double.write (.number s (n.natAbs * 2 ^ d) (-(d : Int)))) n := by
  unfold Rep
  by_cases h0 : n = 0
  · subst h0
    have hz : ∀ k : Nat, 0 = (0 : Int).natAbs * 2 ^ k := fun k => by simp
    refine ⟨s, 0, 1074, ?_, Nat.le_refl _, (hz _ : _), fun h => absurd rfl h⟩
    simp only [Int.natAbs_zero, Nat.zero_mul, Format.write, Format.nearest, if_pos]
    cases s <;> decide +kernel
  · generalize ha : n.natAbs = a at hn
    have ha0 : a ≠ 0 := by omega
    have hlog := log2_mul_pow a d ha0
    have hl52 : a.log2 ≤ 52 := by
      rcases Nat.lt_or_ge 52 a.log2 with h | h
      · exact absurd ((Nat.le_log2 ha0).1 h) (by omega)
      · exact h
    have hm0 : a * 2 ^ d ≠ 0 := Nat.mul_ne_zero ha0 (Nat.pos_iff_ne_zero.1 (Nat.two_pow_pos d))
    have hK1 : 2 ^ 52 ≤ a * 2 ^ (52 - a.log2) := by
      have h1 := Nat.mul_le_mul_right (2 ^ (52 - a.log2)) (Nat.log2_self_le ha0)
      rw [← Nat.pow_add, show a.log2 + (52 - a.log2) = 52 by omega] at h1
      exact h1
    have hK2 : a * 2 ^ (52 - a.log2) < 2 ^ 53 := by
      have h2 : a < 2 ^ (a.log2 + 1) := Nat.lt_log2_self
      have h1 := Nat.mul_lt_mul_of_pos_right h2 (Nat.two_pow_pos (52 - a.log2))
      rw [← Nat.pow_add, show a.log2 + 1 + (52 - a.log2) = 53 by omega] at h1
      exact h1
    -- the last place that is kept
    have hlast : max (-(d : Int) + ((a * 2 ^ d).log2 : Int) - (double.fractionBits : Int)) double.leastPlace = -((52 - a.log2 : Nat) : Int) := by
      rw [hlog]
      show max (-(d : Int) + ((a.log2 + d : Nat) : Int) - ((52 : Nat) : Int)) (-1074) = _
      omega
    refine ⟨s, a * 2 ^ (52 - a.log2), 52 - a.log2, ?_, by omega, rfl, fun _ => hs h0⟩
    simp only [Format.write, Format.nearest]
    rw [if_neg hm0, hlast]
    have hkept : Toward.even.cut s ((a * 2 ^ d) <<< (-(d : Int) - -((52 - a.log2 : Nat) : Int)).toNat) (-((52 - a.log2 : Nat) : Int) - -(d : Int)).toNat = a * 2 ^ (52 - a.log2) := by
      rw [shl]
      rcases Nat.le_total d (52 - a.log2) with h | h
      · rw [show (-(d : Int) - -((52 - a.log2 : Nat) : Int)).toNat = (52 - a.log2) - d by omega, show (-((52 - a.log2 : Nat) : Int) - -(d : Int)).toNat = 0 by omega, cut_none, Nat.mul_assoc, ← Nat.pow_add, show d + (52 - a.log2 - d) = 52 - a.log2 by omega]
      · rw [show (-(d : Int) - -((52 - a.log2 : Nat) : Int)).toNat = 0 by omega, show (-((52 - a.log2 : Nat) : Int) - -(d : Int)).toNat = d - (52 - a.log2) by omega, Nat.pow_zero, Nat.mul_one]
        rw [show a * 2 ^ d = (a * 2 ^ (52 - a.log2)) * 2 ^ (d - (52 - a.log2)) by rw [Nat.mul_assoc, ← Nat.pow_add, show 52 - a.log2 + (d - (52 - a.log2)) = d by omega], cut_exact]
    rw [hkept]
    generalize hK : a * 2 ^ (52 - a.log2) = K at hK1 hK2 ⊢
    generalize hr : (-((52 - a.log2 : Nat) : Int) - double.leastPlace).toNat = r
    have hlp : double.leastPlace = -1074 := by decide +kernel
    have hr' : r = 1074 - (52 - a.log2) := by rw [← hr, hlp]; omega
    have hw : double.signWeight = 2048 * double.binade := by decide +kernel
    have hi : double.infRung = 2047 * double.binade := by decide +kernel
    have hb : double.binade = 2 ^ 52 := rfl
    have hk1 : double.binade ≤ K := by rw [hb]; exact hK1
    have hk2 : K < 2 * double.binade := by rw [hb, show 2 * 2 ^ 52 = 2 ^ 53 by decide]; exact hK2
    obtain ⟨e1, e2, e3, e4⟩ := rung_facts (r := r) hk1 hk2 (by omega)
    simp only [Format.read, Format.word, hi, hw]
    rw [Nat.min_eq_left (Nat.le_of_lt e3)]
    have hq : r * double.binade + K < 2048 * double.binade := Nat.lt_of_lt_of_le e3 (Nat.mul_le_mul_right _ (by omega))
    rw [word_mod s hq, word_neg s hq, if_neg (by omega), if_pos e3, e1, e2, hlp]
    have f1 : double.binade + (K - double.binade) = K := by omega
    have f2 : (-1074 : Int) + ((r + 1 - 1 : Nat) : Int) = -((52 - a.log2 : Nat) : Int) := by omega
    rw [f1, f2]

theorem rep_toInt {x : Nat} {n : Int} (h : Rep x n) : (double.read x).toInt .zero = some n := by
  obtain ⟨s, M, d, hr, hd, hM, hs⟩ := h
  rw [hr, hM]
  simp only [Datum.toInt, Datum.integral]
  rw [show (-(d : Int)).toNat = 0 by omega, show (- -(d : Int)).toNat = d by omega, shl, Nat.pow_zero, Nat.mul_one, cut_exact]
  simp only [signed, shl, Nat.pow_zero, Nat.mul_one, Option.some.injEq]
  by_cases h0 : n = 0
  · subst h0; simp
  · rw [hs h0]
    by_cases hneg : n < 0
    · simp only [hneg, decide_true, if_true]; omega
    · simp only [hneg, decide_false]; simp; omega

theorem signed_rep {n : Int} {s : Bool} {d b : Nat} (hs : n ≠ 0 → s = decide (n < 0)) (hdb : d ≤ b) :
    signed s (n.natAbs * 2 ^ d) (-(d : Int) - -(b : Int)).toNat = n * ((2 ^ b : Nat) : Int) := by
  unfold signed
  rw [show (-(d : Int) - -(b : Int)).toNat = b - d by omega, shl, Nat.mul_assoc, ← Nat.pow_add, show d + (b - d) = b by omega]
  by_cases h0 : n = 0
  · subst h0; simp
  · rw [hs h0]
    by_cases hneg : n < 0
    · simp only [hneg, decide_true, if_true]
      rw [Int.natCast_mul, show ((n.natAbs : Nat) : Int) = -n by omega, Int.neg_mul, Int.neg_neg]
    · simp only [hneg, decide_false]
      rw [if_neg (by simp), Int.natCast_mul, show ((n.natAbs : Nat) : Int) = n by omega]

theorem sum_rep {s t : Bool} {a b : Int} {d e : Nat} (hd : d ≤ 1074) (he : e ≤ 1074) (hs : a ≠ 0 → s = decide (a < 0)) (ht : b ≠ 0 → t = decide (b < 0)) (hab : (a + b).natAbs ≤ 2 ^ 52) :
    ∃ z, ((Datum.number s (a.natAbs * 2 ^ d) (-(d : Int))).sum (Datum.number t (b.natAbs * 2 ^ e) (-(e : Int)))).map double.write = some z ∧ Rep z (a + b) := by
  simp only [Datum.sum]
  have hbase : min (-(d : Int)) (-(e : Int)) = -((max d e : Nat) : Int) := by omega
  rw [hbase, signed_rep hs (by omega), signed_rep ht (by omega), ← Int.add_mul]
  have hp : 0 < ((2 ^ max d e : Nat) : Int) := by exact_mod_cast Nat.two_pow_pos _
  refine ⟨_, rfl, ?_⟩
  rw [Int.natAbs_mul, Int.natAbs_natCast]
  refine rep_write (a + b) hab _ _ fun h0 => ?_
  rw [if_neg (by intro h; rcases Int.mul_eq_zero.1 h with h | h <;> omega)]
  congr 1
  refine propext ⟨fun h => ?_, fun h => ?_⟩
  · rcases Int.lt_or_le (a + b) 0 with h' | h'
    · exact h'
    · have := Int.mul_nonneg h' (Int.le_of_lt hp); omega
  · exact Int.mul_neg_of_neg_of_pos h hp

theorem add_rep {x y : Nat} {a b : Int} (hx : Rep x a) (hy : Rep y b) (hab : (a + b).natAbs ≤ 2 ^ 52) : ∃ z, floatBits .add .f64 x y = some z ∧ Rep z (a + b) := by
  obtain ⟨s, M, d, hr, hd, rfl, hs⟩ := hx
  obtain ⟨t, M', e, hr', he, rfl, ht⟩ := hy
  obtain ⟨z, hz, hz'⟩ := sum_rep hd he hs ht hab
  refine ⟨z, ?_, hz'⟩
  simp only [floatBits]
  show double.add x y = some z
  simp only [Format.add, hr, hr', hz]

theorem sub_rep {x y : Nat} {a b : Int} (hx : Rep x a) (hy : Rep y b) (hab : (a - b).natAbs ≤ 2 ^ 52) : ∃ z, floatBits .sub .f64 x y = some z ∧ Rep z (a - b) := by
  obtain ⟨s, M, d, hr, hd, rfl, hs⟩ := hx
  obtain ⟨t, M', e, hr', he, rfl, ht⟩ := hy
  have ht' : -b ≠ 0 → (!t) = decide (-b < 0) := fun h => by
    rw [ht (by omega)]
    by_cases hb : b < 0
    · simp only [hb, decide_true, Bool.not_true]; symm; simp; omega
    · simp only [hb, decide_false, Bool.not_false]; symm; simp; omega
  obtain ⟨z, hz, hz'⟩ := sum_rep (a := a) (b := -b) hd he hs ht' (by rw [← Int.sub_eq_add_neg]; exact hab)
  refine ⟨z, ?_, by rw [Int.sub_eq_add_neg]; exact hz'⟩
  simp only [floatBits]
  show double.sub x y = some z
  simp only [Format.sub, hr, hr', Datum.opposite]
  rw [Int.natAbs_neg] at hz
  exact hz

/-- 'float64(n)'. -/
theorem ofInt_rep (n : Int) (hn : n.natAbs ≤ 2 ^ 52) : Rep (floatOfInt .f64 n) n := by
  have := rep_write n hn 0 (decide (n < 0)) (fun _ => rfl)
  rw [Nat.pow_zero, Nat.mul_one] at this
  exact this

/-- 'int(x)'. -/
theorem toInt_rep {x : Nat} {n : Int} (h : Rep x n) (hn : n.natAbs ≤ 2 ^ 52) : floatToIntVal .f64 x .i64 = some n := by
  unfold floatToIntVal
  rw [show FloatKind.f64.decode x = double.read x from rfl, rep_toInt h]
  have h1 : IntKind.i64.min = -9223372036854775808 := by decide +kernel
  have h2 : IntKind.i64.max = 9223372036854775807 := by decide +kernel
  simp only [h1, h2]
  rw [if_pos (by omega)]
theorem mul_rep {x y : Nat} {a b : Int} (hx : Rep x a) (hy : Rep y b) (hab : (a * b).natAbs ≤ 2 ^ 52) : ∃ z, floatBits .mul .f64 x y = some z ∧ Rep z (a * b) := by
  obtain ⟨s, M, d, hr, hd, rfl, hs⟩ := hx
  obtain ⟨t, M', e, hr', he, rfl, ht⟩ := hy
  have e1 : a.natAbs * 2 ^ d * (b.natAbs * 2 ^ e) = (a * b).natAbs * 2 ^ (d + e) := by rw [Int.natAbs_mul, Nat.pow_add]; ac_rfl
  have e2 : -(d : Int) + -(e : Int) = -((d + e : Nat) : Int) := by omega
  have hz := rep_write (a * b) hab (d + e) (s ^^ t) fun h0 => by
    have ha : a ≠ 0 := fun h => h0 (by rw [h, Int.zero_mul])
    have hb : b ≠ 0 := fun h => h0 (by rw [h, Int.mul_zero])
    rw [hs ha, ht hb]
    rcases Int.lt_or_gt_of_ne ha with h1 | h1 <;> rcases Int.lt_or_gt_of_ne hb with h2 | h2
    · have := Int.mul_pos_of_neg_of_neg h1 h2
      simp [h1, h2]; omega
    · have := Int.mul_neg_of_neg_of_pos h1 h2
      have h3 : ¬ b < 0 := by omega
      simp [h1, h3]; omega
    · have := Int.mul_neg_of_pos_of_neg h1 h2
      have h3 : ¬ a < 0 := by omega
      simp [h2, h3]; omega
    · have := Int.mul_pos h1 h2
      have h3 : ¬ a < 0 := by omega
      have h4 : ¬ b < 0 := by omega
      simp [h3, h4]; omega
  refine ⟨_, ?_, hz⟩
  simp only [floatBits]
  show double.mul x y = _
  simp only [Format.mul, hr, hr', Datum.product, e1, e2, Option.map]

theorem order_rep {x y : Nat} {a b : Int} (hx : Rep x a) (hy : Rep y b) : FloatKind.f64.format.order x y = some (compare a b) := by
  obtain ⟨s, M, d, hr, hd, rfl, hs⟩ := hx
  obtain ⟨t, M', e, hr', he, rfl, ht⟩ := hy
  show double.order x y = _
  simp only [Format.order, hr, hr', Datum.order]
  have hbase : min (-(d : Int)) (-(e : Int)) = -((max d e : Nat) : Int) := by omega
  rw [hbase, signed_rep hs (by omega), signed_rep ht (by omega)]
  have hp : 0 < ((2 ^ max d e : Nat) : Int) := by exact_mod_cast Nat.two_pow_pos _
  generalize ((2 ^ max d e : Nat) : Int) = K at hp
  congr 1
  show compareOfLessAndEq _ _ = compareOfLessAndEq _ _
  unfold compareOfLessAndEq
  have h1 : (a * K < b * K) = (a < b) := propext ⟨fun h => Int.lt_of_mul_lt_mul_right h (Int.le_of_lt hp), fun h => Int.mul_lt_mul_of_pos_right h hp⟩
  have h2 : (a * K = b * K) = (a = b) := propext ⟨fun h => Int.eq_of_mul_eq_mul_right (by omega) h, fun h => by rw [h]⟩
  simp only [h1, h2]

/-- A complex number's parts. -/
theorem cmul_rep {a b c d : Nat} {x y z u : Int} (ha : Rep a x) (hb : Rep b y) (hc : Rep c z) (hd : Rep d u)
    (h1 : (x * z).natAbs ≤ 2 ^ 52) (h2 : (y * u).natAbs ≤ 2 ^ 52) (h3 : (x * z - y * u).natAbs ≤ 2 ^ 52) (h4 : (x * u).natAbs ≤ 2 ^ 52) (h5 : (y * z).natAbs ≤ 2 ^ 52) (h6 : (x * u + y * z).natAbs ≤ 2 ^ 52) :
    ∃ re im, cMulBits a b c d = some (re, im) ∧ Rep re (x * z - y * u) ∧ Rep im (x * u + y * z) := by
  obtain ⟨p1, e1, r1⟩ := mul_rep ha hc h1
  obtain ⟨p2, e2, r2⟩ := mul_rep hb hd h2
  obtain ⟨p3, e3, r3⟩ := sub_rep r1 r2 h3
  obtain ⟨p4, e4, r4⟩ := mul_rep ha hd h4
  obtain ⟨p5, e5, r5⟩ := mul_rep hb hc h5
  obtain ⟨p6, e6, r6⟩ := add_rep r4 r5 h6
  refine ⟨p3, p6, ?_, r3, r6⟩
  simp [cMulBits, e1, e2, e3, e4, e5, e6]

theorem csum_rep {a b c d : Nat} {x y z u : Int} (ha : Rep a x) (hb : Rep b y) (hc : Rep c z) (hd : Rep d u)
    (h1 : (x + z).natAbs ≤ 2 ^ 52) (h2 : (y + u).natAbs ≤ 2 ^ 52) : ∃ re im, cSumBits .add .f64 a b c d = some (re, im) ∧ Rep re (x + z) ∧ Rep im (y + u) := by
  obtain ⟨p1, e1, r1⟩ := add_rep ha hc h1
  obtain ⟨p2, e2, r2⟩ := add_rep hb hd h2
  exact ⟨p1, p2, by simp [cSumBits, e1, e2], r1, r2⟩
end Go.Proofs.Ytkfdkjjocdbolaa.Floats
