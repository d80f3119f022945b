/-
  A helper of ours: no claim of its own. Layer 23 (wide): numbers of 128 bits as whole numbers; their two words, and their four parts of 32 bits. No program in it.
-/
import Derived.Test.YthckegejbcagmaaGw
import Derived.Laws.BitsAllLaws
set_option linter.unusedVariables false
set_option linter.unusedSimpArgs false
namespace Go.Proofs.Ythckegejbcagmaa
open Go.RowKit
/-- It is a wide number. -/
def InW (x : Int) : Prop := -170141183460469231731687303715884105728 ≤ x ∧ x < 170141183460469231731687303715884105728
instance (x : Int) : Decidable (InW x) := by unfold InW; infer_instance
def okW (x : Int) : Int := if InW x then x else 0
def erW (x : Int) : Int := if InW x then 0 else 10
theorem okW_in {x : Int} (h : InW x) : okW x = x := if_pos h
theorem erW_in {x : Int} (h : InW x) : erW x = 0 := if_pos h
theorem okW_out {x : Int} (h : ¬ InW x) : okW x = 0 := if_neg h
theorem erW_out {x : Int} (h : ¬ InW x) : erW x = 10 := if_neg h
theorem okW_mem (x : Int) : InW (okW x) := by
  unfold okW; split
  · assumption
  · unfold InW; omega
/-- The upper word, and the lower one. -/
def hiW (x : Int) : Int := x / 18446744073709551616
def loW (x : Int) : Int := x % 18446744073709551616
/-- A wide number of its words. -/
def mkW (h l : Int) : Int := h * 18446744073709551616 + l
theorem hi_mk {h l : Int} (hl : 0 ≤ l ∧ l ≤ 18446744073709551615) : hiW (mkW h l) = h := by unfold hiW mkW; omega
theorem lo_mk {h l : Int} (hl : 0 ≤ l ∧ l ≤ 18446744073709551615) : loW (mkW h l) = l := by unfold loW mkW; omega
theorem mk_hl (x : Int) : mkW (hiW x) (loW x) = x := by unfold hiW loW mkW; omega
theorem mk_in {h l : Int} (hh : -9223372036854775808 ≤ h ∧ h ≤ 9223372036854775807) (hl : 0 ≤ l ∧ l ≤ 18446744073709551615) : InW (mkW h l) := by unfold InW mkW; omega
theorem hi_in {x : Int} (h : InW x) : -9223372036854775808 ≤ hiW x ∧ hiW x ≤ 9223372036854775807 := by unfold InW at h; unfold hiW; omega
theorem lo_in (x : Int) : 0 ≤ loW x ∧ loW x ≤ 18446744073709551615 := by unfold loW; omega
theorem hl_eq {x y : Int} (h : hiW x = hiW y) (l : loW x = loW y) : x = y := by rw [← mk_hl x, ← mk_hl y, h, l]
theorem hi_zero : hiW 0 = 0 := by decide
theorem lo_zero : loW 0 = 0 := by decide
/-- The wide number as a value. -/
abbrev wv (x : Int) : Value := .agg #[.int .i64 (hiW x), .int .u64 (loW x)]

/-! The code's sum: words, and signs. -/
def sg (n : Int) : Int := n / 9223372036854775808
theorem sg_neg {n : Int} (h : n < 0) (h2 : -9223372036854775808 ≤ n) : sg n = -1 := by unfold sg; omega
theorem sg_pos {n : Int} (h : 0 ≤ n) (h2 : n ≤ 9223372036854775807) : sg n = 0 := by unfold sg; omega
theorem u64_wrap (n : Int) : IntKind.u64.wrap n = n % 18446744073709551616 := by simp [IntKind.wrap, IntKind.bits, IntKind.signed]
theorem i64_wrap (n : Int) : IntKind.i64.wrap n = (n + 9223372036854775808) % 18446744073709551616 - 9223372036854775808 := by rw [IntKind.wrap_i64]
/-- The lower words' sum, its carry, and the upper words' sum. -/
def adL (x y : Int) : Int := (loW x + loW y + 0) % 18446744073709551616
def adC (x y : Int) : Int := (loW x + loW y + 0) / 18446744073709551616
def adH (x y : Int) : Int := IntKind.i64.wrap ((IntKind.u64.wrap (hiW x) + IntKind.u64.wrap (hiW y) + adC x y) % 18446744073709551616)
theorem adC_in (x y : Int) : 0 ≤ adC x y ∧ adC x y ≤ 1 := by unfold adC loW; omega
theorem adL_in (x y : Int) : 0 ≤ adL x y ∧ adL x y ≤ 18446744073709551615 := by unfold adL; omega
theorem adH_in (x y : Int) : -9223372036854775808 ≤ adH x y ∧ adH x y ≤ 9223372036854775807 := by unfold adH; rw [i64_wrap]; omega
theorem ad_key (x y : Int) : ∃ k : Int, adH x y * 18446744073709551616 + adL x y = x + y + k * 340282366920938463463374607431768211456 := by
  have hx := mk_hl x
  have hy := mk_hl y
  unfold mkW at hx hy
  have e1 : adL x y = loW x + loW y - adC x y * 18446744073709551616 := by unfold adL adC; omega
  have e2 : ∃ j, adH x y = hiW x + hiW y + adC x y + j * 18446744073709551616 := by
    unfold adH
    rw [i64_wrap, u64_wrap, u64_wrap]
    generalize adC x y = c
    generalize hiW x = a
    generalize hiW y = b
    exact ⟨((a % 18446744073709551616 + b % 18446744073709551616 + c) % 18446744073709551616 + 9223372036854775808 - ((a % 18446744073709551616 + b % 18446744073709551616 + c) % 18446744073709551616 + 9223372036854775808) % 18446744073709551616 - 9223372036854775808 + 9223372036854775808 - 9223372036854775808) / 18446744073709551616 * 0 + ((( (a % 18446744073709551616 + b % 18446744073709551616 + c) % 18446744073709551616 + 9223372036854775808) % 18446744073709551616 - 9223372036854775808) - (a + b + c)) / 18446744073709551616, by omega⟩
  obtain ⟨j, e2⟩ := e2
  exact ⟨j, by rw [e1, e2]; omega⟩
theorem ad_fits {x y : Int} (hx : InW x) (hy : InW y) (h : ¬ (sg (hiW x) = sg (hiW y) ∧ ¬ sg (adH x y) = sg (hiW x))) : InW (x + y) ∧ adH x y = hiW (x + y) ∧ adL x y = loW (x + y) := by
  obtain ⟨k, hk⟩ := ad_key x y
  have h1 := adH_in x y
  have h2 := adL_in x y
  have hx1 := hi_in hx
  have hy1 := hi_in hy
  have sx : sg (hiW x) = if x < 0 then -1 else 0 := by unfold sg hiW; unfold InW at hx; split <;> omega
  have sy : sg (hiW y) = if y < 0 then -1 else 0 := by unfold sg hiW; unfold InW at hy; split <;> omega
  have sa : sg (adH x y) = if adH x y < 0 then -1 else 0 := by unfold sg; split <;> omega
  rw [sx, sy, sa] at h
  unfold InW at hx hy ⊢
  have hk0 : k = 0 := by
    generalize adH x y = H at *
    generalize adL x y = L at *
    by_cases hx0 : x < 0 <;> by_cases hy0 : y < 0 <;> by_cases hH : H < 0 <;> simp [hx0, hy0, hH] at h <;> omega
  subst hk0
  generalize adH x y = H at *
  generalize adL x y = L at *
  refine ⟨by omega, ?_, ?_⟩
  · unfold hiW; omega
  · unfold loW; omega
theorem ad_over {x y : Int} (hx : InW x) (hy : InW y) (h : sg (hiW x) = sg (hiW y)) (h' : ¬ sg (adH x y) = sg (hiW x)) : ¬ InW (x + y) := by
  obtain ⟨k, hk⟩ := ad_key x y
  have h1 := adH_in x y
  have h2 := adL_in x y
  have sx : sg (hiW x) = if x < 0 then -1 else 0 := by unfold sg hiW; unfold InW at hx; split <;> omega
  have sy : sg (hiW y) = if y < 0 then -1 else 0 := by unfold sg hiW; unfold InW at hy; split <;> omega
  have sa : sg (adH x y) = if adH x y < 0 then -1 else 0 := by unfold sg; split <;> omega
  rw [sx, sy] at h
  rw [sx, sa] at h'
  unfold InW at hx hy ⊢
  generalize adH x y = H at *
  generalize adL x y = L at *
  by_cases hx0 : x < 0 <;> by_cases hy0 : y < 0 <;> by_cases hH : H < 0 <;> simp [hx0, hy0, hH] at h h' <;> omega

/-! Four parts, and what stands above them. -/
def pt0 (x : Int) : Int := x % 4294967296
def pt1 (x : Int) : Int := x / 4294967296 % 4294967296
def pt2 (x : Int) : Int := x / 18446744073709551616 % 4294967296
def pt3 (x : Int) : Int := x / 79228162514264337593543950336 % 4294967296
def ptS (x : Int) : Int := x / 340282366920938463463374607431768211456
theorem pt_in (x : Int) : (0 ≤ pt0 x ∧ pt0 x ≤ 4294967295) ∧ (0 ≤ pt1 x ∧ pt1 x ≤ 4294967295) ∧ (0 ≤ pt2 x ∧ pt2 x ≤ 4294967295) ∧ (0 ≤ pt3 x ∧ pt3 x ≤ 4294967295) := by
  unfold pt0 pt1 pt2 pt3; omega
theorem pt_fits (x : Int) (h : -340282366920938463463374607431768211456 ≤ x ∧ x < 340282366920938463463374607431768211456) : InW x ↔ (if 2147483648 ≤ pt3 x then ptS x = -1 else ptS x = 0) := by
  unfold InW pt3 ptS
  split <;> omega
theorem pt_hi {x : Int} (h : InW x) : pt3 x * 4294967296 + pt2 x = IntKind.u64.wrap (hiW x) := by
  unfold InW at h; rw [u64_wrap]; unfold pt3 pt2 hiW; omega
theorem pt_lo (x : Int) : pt1 x * 4294967296 + pt0 x = loW x := by
  unfold pt1 pt0 loW; omega
theorem pt_of_hl {x : Int} (h : InW x) : pt0 x = loW x % 4294967296 ∧ pt1 x = loW x / 4294967296 ∧ pt2 x = IntKind.u64.wrap (hiW x) % 4294967296 ∧ pt3 x = IntKind.u64.wrap (hiW x) / 4294967296 ∧ ptS x = sg (hiW x) := by
  unfold InW at h; rw [u64_wrap]; unfold pt0 pt1 pt2 pt3 ptS loW hiW sg; omega
/-- What is carried ahead of each part. -/
def cr1 (x y : Int) : Int := (pt0 x + pt0 y + 0) / 4294967296
def cr2 (x y : Int) : Int := (pt1 x + pt1 y + cr1 x y) / 4294967296
def cr3 (x y : Int) : Int := (pt2 x + pt2 y + cr2 x y) / 4294967296
def cr4 (x y : Int) : Int := (pt3 x + pt3 y + cr3 x y) / 4294967296
theorem cr_in (x y : Int) : (0 ≤ cr1 x y ∧ cr1 x y ≤ 1) ∧ (0 ≤ cr2 x y ∧ cr2 x y ≤ 1) ∧ (0 ≤ cr3 x y ∧ cr3 x y ≤ 1) ∧ (0 ≤ cr4 x y ∧ cr4 x y ≤ 1) := by
  obtain ⟨hx0, hx1, hx2, hx3⟩ := pt_in x
  obtain ⟨hy0, hy1, hy2, hy3⟩ := pt_in y
  have h1 : 0 ≤ cr1 x y ∧ cr1 x y ≤ 1 := by unfold cr1; omega
  have h2 : 0 ≤ cr2 x y ∧ cr2 x y ≤ 1 := by unfold cr2; omega
  have h3 : 0 ≤ cr3 x y ∧ cr3 x y ≤ 1 := by unfold cr3; omega
  exact ⟨h1, h2, h3, by unfold cr4; omega⟩
theorem pt_split (x : Int) : x = pt0 x + 4294967296 * (pt1 x + 4294967296 * (pt2 x + 4294967296 * (pt3 x + 4294967296 * ptS x))) := by
  unfold pt0 pt1 pt2 pt3 ptS; omega
theorem pt_join {a b c d s x : Int} (ha : 0 ≤ a ∧ a ≤ 4294967295) (hb : 0 ≤ b ∧ b ≤ 4294967295) (hc : 0 ≤ c ∧ c ≤ 4294967295) (hd : 0 ≤ d ∧ d ≤ 4294967295)
    (h : x = a + 4294967296 * (b + 4294967296 * (c + 4294967296 * (d + 4294967296 * s)))) : pt0 x = a ∧ pt1 x = b ∧ pt2 x = c ∧ pt3 x = d ∧ ptS x = s := by
  subst h
  unfold pt0 pt1 pt2 pt3 ptS; omega
theorem pt_add (x y : Int) : pt0 (x + y) = (pt0 x + pt0 y + 0) % 4294967296 ∧ pt1 (x + y) = (pt1 x + pt1 y + cr1 x y) % 4294967296 ∧ pt2 (x + y) = (pt2 x + pt2 y + cr2 x y) % 4294967296 ∧ pt3 (x + y) = (pt3 x + pt3 y + cr3 x y) % 4294967296 ∧ ptS (x + y) = ptS x + ptS y + cr4 x y := by
  have e1 : (pt0 x + pt0 y + 0) % 4294967296 = pt0 x + pt0 y - 4294967296 * cr1 x y := by unfold cr1; omega
  have e2 : (pt1 x + pt1 y + cr1 x y) % 4294967296 = pt1 x + pt1 y + cr1 x y - 4294967296 * cr2 x y := by unfold cr2; omega
  have e3 : (pt2 x + pt2 y + cr2 x y) % 4294967296 = pt2 x + pt2 y + cr2 x y - 4294967296 * cr3 x y := by unfold cr3; omega
  have e4 : (pt3 x + pt3 y + cr3 x y) % 4294967296 = pt3 x + pt3 y + cr3 x y - 4294967296 * cr4 x y := by unfold cr4; omega
  refine pt_join (by omega) (by omega) (by omega) (by omega) ?_
  rw [e1, e2, e3, e4]
  have hx := pt_split x
  have hy := pt_split y
  omega
theorem pt_neg (x : Int) : pt0 (-1 - x) = 4294967295 - pt0 x ∧ pt1 (-1 - x) = 4294967295 - pt1 x ∧ pt2 (-1 - x) = 4294967295 - pt2 x ∧ pt3 (-1 - x) = 4294967295 - pt3 x ∧ ptS (-1 - x) = -1 - ptS x := by
  obtain ⟨hx0, hx1, hx2, hx3⟩ := pt_in x
  refine pt_join (by omega) (by omega) (by omega) (by omega) ?_
  have hx := pt_split x
  omega
theorem pt_one : pt0 1 = 1 ∧ pt1 1 = 0 ∧ pt2 1 = 0 ∧ pt3 1 = 0 ∧ ptS 1 = 0 := by decide

/-! Products of the code: upper words of unsigned numbers. -/
theorem mul_hi {a b : Int} (ha : -9223372036854775808 ≤ a ∧ a ≤ 9223372036854775807) (hb : -9223372036854775808 ≤ b ∧ b ≤ 9223372036854775807) : InW (a * b) := by
  have h1 : a.natAbs * b.natAbs ≤ 9223372036854775808 * 9223372036854775808 := Nat.mul_le_mul (by omega) (by omega)
  have h2 := Int.natAbs_mul a b
  unfold InW
  omega
end Go.Proofs.Ythckegejbcagmaa
