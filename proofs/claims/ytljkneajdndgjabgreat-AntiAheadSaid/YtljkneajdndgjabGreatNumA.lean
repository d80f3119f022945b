/-
  A helper of ours: no claim of its own. What the functions of layer 1 (num) on two numbers, and those of the document's own answer, return: one contract each.
-/
import Derived.Test.YtljkneajdndgjabGreatRows
import Derived.Test.YtljkneajdndgjabGreatGw
import Derived.Handy
set_option linter.unusedVariables false
set_option linter.unusedSimpArgs false
namespace Go.Proofs.YtljkneajdndgjabGreat
open Go.RowKit
attribute [local go_sem] GW.cell GW.frozen In.eq_true In.le_true In.ne In.ne' In.ne_add In.ne_add' In.lt_add Upto.le_true Upto.le_add Upto.lt_add


/-- Does it fit into 64 bits? -/
def inR (n : Int) : Bool := decide (-9223372036854775808 ≤ n) && decide (n ≤ 9223372036854775807)
def okF (ok : Bool) (a : Int) : Int := if ok then a else 0
def ovE (ok : Bool) : Int := if ok then 0 else 10
theorem okF_true (a : Int) : okF true a = a := rfl
theorem okF_false (a : Int) : okF false a = 0 := rfl
theorem inR_iff {n : Int} : inR n = true ↔ -9223372036854775808 ≤ n ∧ n ≤ 9223372036854775807 := by simp [inR]
theorem inR_yes {n : Int} (h : -9223372036854775808 ≤ n ∧ n ≤ 9223372036854775807) : inR n = true := inR_iff.2 h
theorem inR_no {n : Int} (h : ¬ (-9223372036854775808 ≤ n ∧ n ≤ 9223372036854775807)) : inR n = false := by
  cases e : inR n
  · rfl
  · exact absurd (inR_iff.1 e) h
def quoV (a b : Int) : Int := if b = 0 then 0 else okF (inR (a.tdiv b)) (a.tdiv b)
def quoE (a b : Int) : Int := if b = 0 then 11 else ovE (inR (a.tdiv b))
def remV (a b : Int) : Int := if b = 0 then 0 else a.tmod b
def remE (b : Int) : Int := if b = 0 then 11 else 0
theorem tdiv_abs (a b : Int) : (a.tdiv b).natAbs ≤ a.natAbs := by
  rw [Int.natAbs_tdiv]; exact Nat.div_le_self _ _
theorem tdiv_in {a b : Int} (ha : -9223372036854775808 ≤ a ∧ a ≤ 9223372036854775807) (h : ¬ (a = -9223372036854775808 ∧ b = -1)) : -9223372036854775808 ≤ a.tdiv b ∧ a.tdiv b ≤ 9223372036854775807 := by
  have h1 := tdiv_abs a b
  by_cases hb : b = 0
  · subst hb; simp
  by_cases e : a.tdiv b = 9223372036854775808
  · exfalso
    have ha' : a.natAbs = 9223372036854775808 := by rw [e] at h1; omega
    have ha2 : a = -9223372036854775808 := by omega
    have h2 : (a.tdiv b).natAbs = a.natAbs / b.natAbs := Int.natAbs_tdiv a b
    rw [e, ha'] at h2
    have h3 : b.natAbs = 1 := by
      rcases Nat.lt_or_ge 1 b.natAbs with h | h
      · have := Nat.div_lt_self (n := 9223372036854775808) (by omega) h; omega
      · omega
    have : b = 1 ∨ b = -1 := by omega
    rcases this with rfl | rfl
    · rw [ha2] at e; simp at e
    · exact h ⟨ha2, rfl⟩
  · omega
theorem tdiv_most : (-9223372036854775808 : Int).tdiv (-1) = 9223372036854775808 := by decide +kernel
theorem tmod_abs {a b : Int} (ha : -9223372036854775808 ≤ a ∧ a ≤ 9223372036854775807) : -9223372036854775808 ≤ a.tmod b ∧ a.tmod b ≤ 9223372036854775807 := by
  have h1 : (a.tmod b).natAbs = a.natAbs % b.natAbs := Int.natAbs_tmod a b
  have h2 := Nat.mod_le a.natAbs b.natAbs
  have h3 : 0 ≤ a → 0 ≤ a.tmod b := fun h => Int.tmod_nonneg b h
  have h4 : a ≤ 0 → a.tmod b ≤ 0 := fun h => by
    have := Int.tmod_nonneg b (a := -a) (by omega)
    rw [Int.neg_tmod] at this; omega
  rcases Int.le_total 0 a with h | h
  · have := h3 h; omega
  · have := h4 h; omega
theorem tmod_one (a : Int) : a.tmod (-1) = 0 := by simp
set_option maxHeartbeats 1000000 in
theorem add_c (a b : Int) (ha : -9223372036854775808 ≤ a ∧ a ≤ 9223372036854775807) (hb : -9223372036854775808 ≤ b ∧ b ≤ 9223372036854775807) (w : World) : Calls Tryz.prog 202 #[.int .i64 a, .int .i64 b] w fun e w' => e = .returned (.tuple #[.int .i64 (okF (inR (a + b)) (a + b)), .int .i64 (ovE (inR (a + b)))]) ∧ Ext w w' := by
  obtain ⟨a1, a2⟩ := ha
  obtain ⟨b1, b2⟩ := hb
  by_cases hr0 : -9223372036854775808 ≤ a + b ∧ a + b ≤ 9223372036854775807
  · have hr := hide (inR_yes hr0)
    obtain ⟨r1, r2⟩ := hr0
    rcases Int.lt_trichotomy b 0 with h | h | h
    · go_enter Tryz.func202, Tryz.ntmps202
      go_wp2_with fail
      all_goals
        go_returns
        refine ⟨by first | rfl | (simp [okF, ovE, hr.out]; done) | (simp [okF, ovE, hr.out]; omega), ?_⟩
        repeat (first | exact Ext.refl _ | with_reducible assumption | refine Ext.alloc ?_ _ | refine Ext.drew ?_ | refine Ext.drewN ?_ _ | refine ext_gw ?_ _ | refine Ext.setCell ?_ (by first | (simp; done) | (simp [Upto.le_true, Upto.le_add]; done) | (simp; omega)) _)
    · subst h
      have hr := hide (inR_yes (n := a) ⟨a1, a2⟩)
      go_enter Tryz.func202, Tryz.ntmps202
      go_wp2_with fail
      all_goals
        go_returns
        refine ⟨by first | rfl | (simp [okF, ovE, hr.out]; done) | (simp [okF, ovE, hr.out]; omega), ?_⟩
        repeat (first | exact Ext.refl _ | with_reducible assumption | refine Ext.alloc ?_ _ | refine Ext.drew ?_ | refine Ext.drewN ?_ _ | refine ext_gw ?_ _ | refine Ext.setCell ?_ (by first | (simp; done) | (simp [Upto.le_true, Upto.le_add]; done) | (simp; omega)) _)
    · go_enter Tryz.func202, Tryz.ntmps202
      go_wp2_with fail
      all_goals
        go_returns
        refine ⟨by first | rfl | (simp [okF, ovE, hr.out]; done) | (simp [okF, ovE, hr.out]; omega), ?_⟩
        repeat (first | exact Ext.refl _ | with_reducible assumption | refine Ext.alloc ?_ _ | refine Ext.drew ?_ | refine Ext.drewN ?_ _ | refine ext_gw ?_ _ | refine Ext.setCell ?_ (by first | (simp; done) | (simp [Upto.le_true, Upto.le_add]; done) | (simp; omega)) _)
  have hr := hide (inR_no hr0)
  rcases Int.lt_trichotomy b 0 with h | h | h
  · have k : a + b < -9223372036854775808 ∨ a + b > 9223372036854775807 := by omega
    go_enter Tryz.func202, Tryz.ntmps202
    go_wp2_with fail
    all_goals
      go_returns
      refine ⟨by first | rfl | (simp [okF, ovE, hr.out]; done) | (simp [okF, ovE, hr.out]; omega), ?_⟩
      repeat (first | exact Ext.refl _ | with_reducible assumption | refine Ext.alloc ?_ _ | refine Ext.drew ?_ | refine Ext.drewN ?_ _ | refine ext_gw ?_ _ | refine Ext.setCell ?_ (by first | (simp; done) | (simp [Upto.le_true, Upto.le_add]; done) | (simp; omega)) _)
  · exfalso; omega
  · go_enter Tryz.func202, Tryz.ntmps202
    go_wp2_with fail
    all_goals
      go_returns
      refine ⟨by first | rfl | (simp [okF, ovE, hr.out]; done) | (simp [okF, ovE, hr.out]; omega), ?_⟩
      repeat (first | exact Ext.refl _ | with_reducible assumption | refine Ext.alloc ?_ _ | refine Ext.drew ?_ | refine Ext.drewN ?_ _ | refine ext_gw ?_ _ | refine Ext.setCell ?_ (by first | (simp; done) | (simp [Upto.le_true, Upto.le_add]; done) | (simp; omega)) _)

set_option maxHeartbeats 1000000 in
theorem sub_c (a b : Int) (ha : -9223372036854775808 ≤ a ∧ a ≤ 9223372036854775807) (hb : -9223372036854775808 ≤ b ∧ b ≤ 9223372036854775807) (w : World) : Calls Tryz.prog 203 #[.int .i64 a, .int .i64 b] w fun e w' => e = .returned (.tuple #[.int .i64 (okF (inR (a - b)) (a - b)), .int .i64 (ovE (inR (a - b)))]) ∧ Ext w w' := by
  obtain ⟨a1, a2⟩ := ha
  obtain ⟨b1, b2⟩ := hb
  by_cases hr0 : -9223372036854775808 ≤ a - b ∧ a - b ≤ 9223372036854775807
  · have hr := hide (inR_yes hr0)
    obtain ⟨r1, r2⟩ := hr0
    rcases Int.lt_trichotomy b 0 with h | h | h
    · go_enter Tryz.func203, Tryz.ntmps203
      go_wp2_with fail
      all_goals
        go_returns
        refine ⟨by first | rfl | (simp [okF, ovE, hr.out]; done) | (simp [okF, ovE, hr.out]; omega), ?_⟩
        repeat (first | exact Ext.refl _ | with_reducible assumption | refine Ext.alloc ?_ _ | refine Ext.drew ?_ | refine Ext.drewN ?_ _ | refine ext_gw ?_ _ | refine Ext.setCell ?_ (by first | (simp; done) | (simp [Upto.le_true, Upto.le_add]; done) | (simp; omega)) _)
    · subst h
      have hr := hide (inR_yes (n := a) ⟨a1, a2⟩)
      go_enter Tryz.func203, Tryz.ntmps203
      go_wp2_with fail
      all_goals
        go_returns
        refine ⟨by first | rfl | (simp [okF, ovE, hr.out]; done) | (simp [okF, ovE, hr.out]; omega), ?_⟩
        repeat (first | exact Ext.refl _ | with_reducible assumption | refine Ext.alloc ?_ _ | refine Ext.drew ?_ | refine Ext.drewN ?_ _ | refine ext_gw ?_ _ | refine Ext.setCell ?_ (by first | (simp; done) | (simp [Upto.le_true, Upto.le_add]; done) | (simp; omega)) _)
    · go_enter Tryz.func203, Tryz.ntmps203
      go_wp2_with fail
      all_goals
        go_returns
        refine ⟨by first | rfl | (simp [okF, ovE, hr.out]; done) | (simp [okF, ovE, hr.out]; omega), ?_⟩
        repeat (first | exact Ext.refl _ | with_reducible assumption | refine Ext.alloc ?_ _ | refine Ext.drew ?_ | refine Ext.drewN ?_ _ | refine ext_gw ?_ _ | refine Ext.setCell ?_ (by first | (simp; done) | (simp [Upto.le_true, Upto.le_add]; done) | (simp; omega)) _)
  have hr := hide (inR_no hr0)
  rcases Int.lt_trichotomy b 0 with h | h | h
  · have k : a - b < -9223372036854775808 ∨ a - b > 9223372036854775807 := by omega
    go_enter Tryz.func203, Tryz.ntmps203
    go_wp2_with fail
    all_goals
      go_returns
      refine ⟨by first | rfl | (simp [okF, ovE, hr.out]; done) | (simp [okF, ovE, hr.out]; omega), ?_⟩
      repeat (first | exact Ext.refl _ | with_reducible assumption | refine Ext.alloc ?_ _ | refine Ext.drew ?_ | refine Ext.drewN ?_ _ | refine ext_gw ?_ _ | refine Ext.setCell ?_ (by first | (simp; done) | (simp [Upto.le_true, Upto.le_add]; done) | (simp; omega)) _)
  · exfalso; omega
  · go_enter Tryz.func203, Tryz.ntmps203
    go_wp2_with fail
    all_goals
      go_returns
      refine ⟨by first | rfl | (simp [okF, ovE, hr.out]; done) | (simp [okF, ovE, hr.out]; omega), ?_⟩
      repeat (first | exact Ext.refl _ | with_reducible assumption | refine Ext.alloc ?_ _ | refine Ext.drew ?_ | refine Ext.drewN ?_ _ | refine ext_gw ?_ _ | refine Ext.setCell ?_ (by first | (simp; done) | (simp [Upto.le_true, Upto.le_add]; done) | (simp; omega)) _)

set_option maxHeartbeats 1000000 in
theorem neg_c (a : Int) (ha : -9223372036854775808 ≤ a ∧ a ≤ 9223372036854775807) (w : World) : Calls Tryz.prog 195 #[.int .i64 a] w fun e w' => e = .returned (.tuple #[.int .i64 (okF (inR (-a)) (-a)), .int .i64 (ovE (inR (-a)))]) ∧ Ext w w' := by
  obtain ⟨a1, a2⟩ := ha
  by_cases h : a = -9223372036854775808
  · subst h
    have hr := hide (inR_no (n := - -9223372036854775808) (by omega))
    go_enter Tryz.func195, Tryz.ntmps195
    go_wp2_with fail
    all_goals
      go_returns
      refine ⟨by first | rfl | (simp [okF, ovE, hr.out]; done) | (simp [okF, ovE, hr.out]; omega), ?_⟩
      repeat (first | exact Ext.refl _ | with_reducible assumption | refine Ext.alloc ?_ _ | refine Ext.drew ?_ | refine Ext.drewN ?_ _ | refine ext_gw ?_ _ | refine Ext.setCell ?_ (by first | (simp; done) | (simp [Upto.le_true, Upto.le_add]; done) | (simp; omega)) _)
  have hr := hide (inR_yes (n := -a) (by omega))
  have e : (a == -9223372036854775808) = false := by simp [h]
  go_enter Tryz.func195, Tryz.ntmps195
  go_wp2_with fail
  all_goals
    go_returns
    refine ⟨by first | rfl | (simp [okF, ovE, hr.out]; done) | (simp [okF, ovE, hr.out]; omega), ?_⟩
    repeat (first | exact Ext.refl _ | with_reducible assumption | refine Ext.alloc ?_ _ | refine Ext.drew ?_ | refine Ext.drewN ?_ _ | refine ext_gw ?_ _ | refine Ext.setCell ?_ (by first | (simp; done) | (simp [Upto.le_true, Upto.le_add]; done) | (simp; omega)) _)

set_option maxHeartbeats 1000000 in
theorem quo_c (a b : Int) (ha : -9223372036854775808 ≤ a ∧ a ≤ 9223372036854775807) (hb : -9223372036854775808 ≤ b ∧ b ≤ 9223372036854775807) (w : World) : Calls Tryz.prog 205 #[.int .i64 a, .int .i64 b] w fun e w' => e = .returned (.tuple #[.int .i64 (quoV a b), .int .i64 (quoE a b)]) ∧ Ext w w' := by
  by_cases h0 : b = 0
  · subst h0
    clear hb
    have hr := hide trivial
    go_enter Tryz.func205, Tryz.ntmps205
    go_wp2_with fail
    all_goals
      go_returns
      refine ⟨by first | rfl | (simp [quoV, quoE, okF, ovE, hr.out, *]; done) | (simp [quoV, quoE, okF, ovE, hr.out, *]; omega), ?_⟩
      repeat (first | exact Ext.refl _ | with_reducible assumption | refine Ext.alloc ?_ _ | refine Ext.drew ?_ | refine Ext.drewN ?_ _ | refine ext_gw ?_ _ | refine Ext.setCell ?_ (by first | (simp; done) | (simp [Upto.le_true, Upto.le_add]; done) | (simp; omega)) _)
  have e0 : (b == 0) = false := by simp [h0]
  by_cases h1 : a = -9223372036854775808 ∧ b = -1
  · obtain ⟨rfl, rfl⟩ := h1
    clear ha hb
    have hr := hide (inR_no (n := (-9223372036854775808 : Int).tdiv (-1)) (by rw [tdiv_most]; omega))
    go_enter Tryz.func205, Tryz.ntmps205
    go_wp2_with fail
    all_goals
      go_returns
      refine ⟨by first | rfl | (simp [quoV, quoE, okF, ovE, hr.out, *]; done) | (simp [quoV, quoE, okF, ovE, hr.out, *]; omega), ?_⟩
      repeat (first | exact Ext.refl _ | with_reducible assumption | refine Ext.alloc ?_ _ | refine Ext.drew ?_ | refine Ext.drewN ?_ _ | refine ext_gw ?_ _ | refine Ext.setCell ?_ (by first | (simp; done) | (simp [Upto.le_true, Upto.le_add]; done) | (simp; omega)) _)
  have hi := tdiv_in ha h1
  have hr := hide (inR_yes hi)
  have hq : IntKind.i64.wrap (a.tdiv b) = a.tdiv b := IntWalk.i64_in _ hi
  by_cases h2 : a = -9223372036854775808
  · have e1 : (b == -1) = false := by simp; intro h; exact h1 ⟨h2, h⟩
    have e2 : (a == -9223372036854775808) = true := by simp [h2]
    clear ha hb hi h1 h2
    go_enter Tryz.func205, Tryz.ntmps205
    go_wp2_with fail
    all_goals
      go_returns
      refine ⟨by first | rfl | (simp [quoV, quoE, okF, ovE, hr.out, *]; done) | (simp [quoV, quoE, okF, ovE, hr.out, *]; omega), ?_⟩
      repeat (first | exact Ext.refl _ | with_reducible assumption | refine Ext.alloc ?_ _ | refine Ext.drew ?_ | refine Ext.drewN ?_ _ | refine ext_gw ?_ _ | refine Ext.setCell ?_ (by first | (simp; done) | (simp [Upto.le_true, Upto.le_add]; done) | (simp; omega)) _)
  have e1 : (a == -9223372036854775808) = false := by simp [h2]
  clear ha hb hi h1
  go_enter Tryz.func205, Tryz.ntmps205
  go_wp2_with fail
  all_goals
    go_returns
    refine ⟨by first | rfl | (simp [quoV, quoE, okF, ovE, hr.out, *]; done) | (simp [quoV, quoE, okF, ovE, hr.out, *]; omega), ?_⟩
    repeat (first | exact Ext.refl _ | with_reducible assumption | refine Ext.alloc ?_ _ | refine Ext.drew ?_ | refine Ext.drewN ?_ _ | refine ext_gw ?_ _ | refine Ext.setCell ?_ (by first | (simp; done) | (simp [Upto.le_true, Upto.le_add]; done) | (simp; omega)) _)

set_option maxHeartbeats 1000000 in
theorem rem_c (a b : Int) (ha : -9223372036854775808 ≤ a ∧ a ≤ 9223372036854775807) (hb : -9223372036854775808 ≤ b ∧ b ≤ 9223372036854775807) (w : World) : Calls Tryz.prog 206 #[.int .i64 a, .int .i64 b] w fun e w' => e = .returned (.tuple #[.int .i64 (remV a b), .int .i64 (remE b)]) ∧ Ext w w' := by
  by_cases h0 : b = 0
  · subst h0
    clear hb
    go_enter Tryz.func206, Tryz.ntmps206
    go_wp2_with fail
    all_goals
      go_returns
      refine ⟨by first | rfl | (simp [remV, remE, tmod_one, *]; done) | (simp [remV, remE, tmod_one, *]; omega), ?_⟩
      repeat (first | exact Ext.refl _ | with_reducible assumption | refine Ext.alloc ?_ _ | refine Ext.drew ?_ | refine Ext.drewN ?_ _ | refine ext_gw ?_ _ | refine Ext.setCell ?_ (by first | (simp; done) | (simp [Upto.le_true, Upto.le_add]; done) | (simp; omega)) _)
  have e0 : (b == 0) = false := by simp [h0]
  by_cases h1 : b = -1
  · subst h1
    clear hb
    go_enter Tryz.func206, Tryz.ntmps206
    go_wp2_with fail
    all_goals
      go_returns
      refine ⟨by first | rfl | (simp [remV, remE, tmod_one, *]; done) | (simp [remV, remE, tmod_one, *]; omega), ?_⟩
      repeat (first | exact Ext.refl _ | with_reducible assumption | refine Ext.alloc ?_ _ | refine Ext.drew ?_ | refine Ext.drewN ?_ _ | refine ext_gw ?_ _ | refine Ext.setCell ?_ (by first | (simp; done) | (simp [Upto.le_true, Upto.le_add]; done) | (simp; omega)) _)
  have e1 : (b == -1) = false := by simp [h1]
  have hi := tmod_abs (b := b) ha
  have hq : IntKind.i64.wrap (a.tmod b) = a.tmod b := IntWalk.i64_in _ hi
  clear ha hb hi
  go_enter Tryz.func206, Tryz.ntmps206
  go_wp2_with fail
  all_goals
    go_returns
    refine ⟨by first | rfl | (simp [remV, remE, tmod_one, *]; done) | (simp [remV, remE, tmod_one, *]; omega), ?_⟩
    repeat (first | exact Ext.refl _ | with_reducible assumption | refine Ext.alloc ?_ _ | refine Ext.drew ?_ | refine Ext.drewN ?_ _ | refine ext_gw ?_ _ | refine Ext.setCell ?_ (by first | (simp; done) | (simp [Upto.le_true, Upto.le_add]; done) | (simp; omega)) _)

end Go.Proofs.YtljkneajdndgjabGreat
