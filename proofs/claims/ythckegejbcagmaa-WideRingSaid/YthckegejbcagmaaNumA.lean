/-
  A helper of ours: no claim of its own. What the functions of layer 1 (num) on two numbers, and those of the document's own answer, return: one contract each.
-/
import Derived.Test.YthckegejbcagmaaRows
import Derived.Test.YthckegejbcagmaaGw
import Derived.Handy
set_option linter.unusedVariables false
set_option linter.unusedSimpArgs false
namespace Go.Proofs.Ythckegejbcagmaa
open Go.RowKit
attribute [local go_sem] GW.cell GW.frozen In.eq_true In.le_true In.ne In.ne' In.ne_add In.ne_add' In.lt_add Upto.le_true Upto.le_add Upto.lt_add


/-- Does it fit into 64 bits? -/
def inR (n : Int) : Bool := decide (-9223372036854775808 ≤ n) && decide (n ≤ 9223372036854775807)
def okF (ok : Bool) (a : Int) : Int := if ok then a else 0
def ovE (ok : Bool) : Int := if ok then 0 else 10
theorem okF_true (a : Int) : okF true a = a := rfl
theorem okF_false (a : Int) : okF false a = 0 := rfl
theorem ovE_true : ovE true = 0 := rfl
theorem ovE_false : ovE false = 10 := rfl
theorem inR_iff {n : Int} : inR n = true ↔ -9223372036854775808 ≤ n ∧ n ≤ 9223372036854775807 := by simp [inR]
theorem inR_yes {n : Int} (h : -9223372036854775808 ≤ n ∧ n ≤ 9223372036854775807) : inR n = true := inR_iff.2 h
theorem inR_no {n : Int} (h : ¬ (-9223372036854775808 ≤ n ∧ n ≤ 9223372036854775807)) : inR n = false := by
  cases e : inR n
  · rfl
  · exact absurd (inR_iff.1 e) h
def quoV (a b : Int) : Int := if b = 0 then 0 else okF (inR (a.tdiv b)) (a.tdiv b)
def quoE (a b : Int) : Int := if b = 0 then 11 else ovE (inR (a.tdiv b))
def remV (a b : Int) : Int := if b = 0 then 0 else a.tmod b
def remE (b : Int) : Int := if b = 0 then 11 else 0
def flQ (a b : Int) : Int := if b < 1 then 0 else a / b
def flR (a b : Int) : Int := if b < 1 then 0 else a % b
def flE (b : Int) : Int := if b < 1 then 2 else 0

theorem tdiv_abs (a b : Int) : (a.tdiv b).natAbs ≤ a.natAbs := by
  rw [Int.natAbs_tdiv]; exact Nat.div_le_self _ _
theorem tdiv_in {a b : Int} (ha : -9223372036854775808 ≤ a ∧ a ≤ 9223372036854775807) (h : ¬ (a = -9223372036854775808 ∧ b = -1)) : -9223372036854775808 ≤ a.tdiv b ∧ a.tdiv b ≤ 9223372036854775807 := by
  have h1 := tdiv_abs a b
  by_cases hb : b = 0
  · subst hb; simp
  by_cases e : a.tdiv b = 9223372036854775808
  · exfalso
    have ha' : a.natAbs = 9223372036854775808 := by rw [e] at h1; omega
    have ha2 : a = -9223372036854775808 := by omega
    have h2 : (a.tdiv b).natAbs = a.natAbs / b.natAbs := Int.natAbs_tdiv a b
    rw [e, ha'] at h2
    have h3 : b.natAbs = 1 := by
      rcases Nat.lt_or_ge 1 b.natAbs with h | h
      · have := Nat.div_lt_self (n := 9223372036854775808) (by omega) h; omega
      · omega
    have : b = 1 ∨ b = -1 := by omega
    rcases this with rfl | rfl
    · rw [ha2] at e; simp at e
    · exact h ⟨ha2, rfl⟩
  · omega
theorem tdiv_most : (-9223372036854775808 : Int).tdiv (-1) = 9223372036854775808 := by decide +kernel
theorem tmod_abs {a b : Int} (ha : -9223372036854775808 ≤ a ∧ a ≤ 9223372036854775807) : -9223372036854775808 ≤ a.tmod b ∧ a.tmod b ≤ 9223372036854775807 := by
  have h1 : (a.tmod b).natAbs = a.natAbs % b.natAbs := Int.natAbs_tmod a b
  have h2 := Nat.mod_le a.natAbs b.natAbs
  have h3 : 0 ≤ a → 0 ≤ a.tmod b := fun h => Int.tmod_nonneg b h
  have h4 : a ≤ 0 → a.tmod b ≤ 0 := fun h => by
    have := Int.tmod_nonneg b (a := -a) (by omega)
    rw [Int.neg_tmod] at this; omega
  rcases Int.le_total 0 a with h | h
  · have := h3 h; omega
  · have := h4 h; omega
theorem tmod_one (a : Int) : a.tmod (-1) = 0 := by simp
/-- From the quotient that is cut to the one that is not above. -/
theorem floor_neg {a b : Int} (hb : 1 ≤ b) (h : a.tmod b < 0) : a.tdiv b - 1 = a / b ∧ a.tmod b + b = a % b := by
  have h1 := Int.mul_tdiv_add_tmod a b
  have h2 : (a.tmod b).natAbs < b.natAbs := by rw [Int.natAbs_tmod]; exact Nat.mod_lt _ (by omega)
  have e : a = b * (a.tdiv b - 1) + (a.tmod b + b) := by rw [Int.mul_sub]; omega
  have h3 : a % b = a.tmod b + b := by
    conv => lhs; rw [e]
    rw [Int.add_comm, Int.add_mul_emod_self_left]; exact Int.emod_eq_of_lt (by omega) (by omega)
  have h4 := Int.mul_ediv_add_emod a b
  refine ⟨?_, h3.symm⟩
  rw [h3] at h4
  have : b * (a / b) = b * (a.tdiv b - 1) := by omega
  exact (Int.eq_of_mul_eq_mul_left (by omega) this).symm
theorem floor_pos {a b : Int} (hb : 1 ≤ b) (h : 0 ≤ a.tmod b) : a.tdiv b = a / b ∧ a.tmod b = a % b := by
  have h1 := Int.mul_tdiv_add_tmod a b
  have h2 : (a.tmod b).natAbs < b.natAbs := by rw [Int.natAbs_tmod]; exact Nat.mod_lt _ (by omega)
  have h3 : a % b = a.tmod b := by
    conv => lhs; rw [← h1]
    rw [Int.add_comm, Int.add_mul_emod_self_left]; exact Int.emod_eq_of_lt (by omega) (by omega)
  have h4 := Int.mul_ediv_add_emod a b
  refine ⟨?_, h3.symm⟩
  rw [h3] at h4
  have : b * (a / b) = b * a.tdiv b := by omega
  exact (Int.eq_of_mul_eq_mul_left (by omega) this).symm


set_option maxHeartbeats 1000000 in
theorem refAdd_c (a b : Int) (ha : -9223372036854775808 ≤ a ∧ a ≤ 9223372036854775807) (hb : -9223372036854775808 ≤ b ∧ b ≤ 9223372036854775807) (w : World) : Calls Try.prog 20 #[.int .i64 a, .int .i64 b] w fun e w' => e = .returned (.tuple #[.int .i64 (okF (inR (a + b)) (a + b)), .int .i64 (ovE (inR (a + b)))]) ∧ Ext w w' := by
  obtain ⟨a1, a2⟩ := ha
  obtain ⟨b1, b2⟩ := hb
  by_cases hr0 : -9223372036854775808 ≤ a + b ∧ a + b ≤ 9223372036854775807
  · have hr := hide (inR_yes hr0)
    obtain ⟨r1, r2⟩ := hr0
    rcases Int.lt_trichotomy b 0 with h | h | h
    · go_enter Try.func20, Try.ntmps20
      go_wp2_with fail
      all_goals
        go_returns
        refine ⟨by first | rfl | (simp [okF, ovE, hr.out]; done) | (simp [okF, ovE, hr.out]; omega), ?_⟩
        repeat (first | exact Ext.refl _ | with_reducible assumption | refine Ext.alloc ?_ _ | refine Ext.drew ?_ | refine Ext.drewN ?_ _ | refine ext_gw ?_ _ | refine Ext.setCell ?_ (by first | (simp; done) | (simp [Upto.le_true, Upto.le_add]; done) | (simp; omega)) _)
    · subst h
      have hr := hide (inR_yes (n := a) ⟨a1, a2⟩)
      go_enter Try.func20, Try.ntmps20
      go_wp2_with fail
      all_goals
        go_returns
        refine ⟨by first | rfl | (simp [okF, ovE, hr.out]; done) | (simp [okF, ovE, hr.out]; omega), ?_⟩
        repeat (first | exact Ext.refl _ | with_reducible assumption | refine Ext.alloc ?_ _ | refine Ext.drew ?_ | refine Ext.drewN ?_ _ | refine ext_gw ?_ _ | refine Ext.setCell ?_ (by first | (simp; done) | (simp [Upto.le_true, Upto.le_add]; done) | (simp; omega)) _)
    · go_enter Try.func20, Try.ntmps20
      go_wp2_with fail
      all_goals
        go_returns
        refine ⟨by first | rfl | (simp [okF, ovE, hr.out]; done) | (simp [okF, ovE, hr.out]; omega), ?_⟩
        repeat (first | exact Ext.refl _ | with_reducible assumption | refine Ext.alloc ?_ _ | refine Ext.drew ?_ | refine Ext.drewN ?_ _ | refine ext_gw ?_ _ | refine Ext.setCell ?_ (by first | (simp; done) | (simp [Upto.le_true, Upto.le_add]; done) | (simp; omega)) _)
  have hr := hide (inR_no hr0)
  rcases Int.lt_trichotomy b 0 with h | h | h
  · have k : a + b < -9223372036854775808 ∨ a + b > 9223372036854775807 := by omega
    go_enter Try.func20, Try.ntmps20
    go_wp2_with fail
    all_goals
      go_returns
      refine ⟨by first | rfl | (simp [okF, ovE, hr.out]; done) | (simp [okF, ovE, hr.out]; omega), ?_⟩
      repeat (first | exact Ext.refl _ | with_reducible assumption | refine Ext.alloc ?_ _ | refine Ext.drew ?_ | refine Ext.drewN ?_ _ | refine ext_gw ?_ _ | refine Ext.setCell ?_ (by first | (simp; done) | (simp [Upto.le_true, Upto.le_add]; done) | (simp; omega)) _)
  · exfalso; omega
  · go_enter Try.func20, Try.ntmps20
    go_wp2_with fail
    all_goals
      go_returns
      refine ⟨by first | rfl | (simp [okF, ovE, hr.out]; done) | (simp [okF, ovE, hr.out]; omega), ?_⟩
      repeat (first | exact Ext.refl _ | with_reducible assumption | refine Ext.alloc ?_ _ | refine Ext.drew ?_ | refine Ext.drewN ?_ _ | refine ext_gw ?_ _ | refine Ext.setCell ?_ (by first | (simp; done) | (simp [Upto.le_true, Upto.le_add]; done) | (simp; omega)) _)









end Go.Proofs.Ythckegejbcagmaa
