/-
  A helper of ours: no claim of its own. (As NumB, without what rests on the library's shelf.) Products and quotients of layer 1 (num), the text of a number, and what must be whatever is asked.
-/
import Derived.Test.YtljkneajdndgjabGreatNumA
import Derived.WalkSmall
set_option linter.unusedVariables false
set_option linter.unusedSimpArgs false
namespace Go.Proofs.YtljkneajdndgjabGreat
open Go.RowKit
attribute [local go_sem] GW.cell GW.frozen In.eq_true In.le_true In.ne In.ne' In.ne_add In.ne_add' In.lt_add Upto.le_true Upto.le_add Upto.lt_add


theorem great_pp {a b : Int} (hb : 0 < b) : (9223372036854775807 / b < a) ↔ (9223372036854775807 < a * b) := Int.ediv_lt_iff_lt_mul hb
theorem great_pn {a b : Int} (ha : 0 < a) : (b < -(9223372036854775808 / a)) ↔ (a * b < -9223372036854775808) := by
  have h := Int.ediv_lt_iff_lt_mul (a := 9223372036854775808) (b := -b) ha
  rw [Int.neg_mul, Int.mul_comm b a] at h
  omega
theorem most_neg (b : Int) : 9223372036854775807 / b = -(9223372036854775807 / (-b)) := by
  rw [Int.ediv_neg, Int.neg_neg]
theorem great_nn {a b : Int} (hb : b < 0) : (a < 9223372036854775807 / b) ↔ (9223372036854775807 < a * b) := by
  rw [most_neg]
  have h := Int.ediv_lt_iff_lt_mul (a := 9223372036854775807) (b := -a) (c := -b) (by omega)
  rw [Int.neg_mul_neg] at h
  omega
theorem quo_least {a : Int} (ha : 0 < a) : IntKind.i64.wrap (-Int.tdiv 9223372036854775808 a) = -(9223372036854775808 / a) := by
  rw [Int.tdiv_eq_ediv_of_nonneg (by omega)]
  have h1 : 0 ≤ 9223372036854775808 / a := Int.ediv_nonneg (by omega) (by omega)
  have h2 : 9223372036854775808 / a ≤ 9223372036854775808 := Int.ediv_le_self _ (by omega)
  exact IntWalk.i64_in _ (by omega)
theorem quo_most {b : Int} (hb : b < 0) : IntKind.i64.wrap (Int.tdiv 9223372036854775807 b) = 9223372036854775807 / b := by
  rw [Int.tdiv_eq_ediv_of_nonneg (by omega), most_neg]
  have h1 : 0 ≤ 9223372036854775807 / (-b) := Int.ediv_nonneg (by omega) (by omega)
  have h2 : 9223372036854775807 / (-b) ≤ 9223372036854775807 := Int.ediv_le_self _ (by omega)
  exact IntWalk.i64_in _ (by omega)
set_option maxHeartbeats 4000000 in
theorem tooGreat_c (a b : Int) (ha : -9223372036854775808 ≤ a ∧ a ≤ 9223372036854775807) (hb : -9223372036854775808 ≤ b ∧ b ≤ 9223372036854775807) (w : World) : Calls Tryz.prog 208 #[.int .i64 a, .int .i64 b] w fun e w' => e = .returned (.bool (!inR (a * b))) ∧ Ext w w' := by
  obtain ⟨a1, a2⟩ := ha
  obtain ⟨b1, b2⟩ := hb
  by_cases ha0 : a = 0
  · subst ha0
    have hr := hide (inR_yes (n := 0) (by omega))
    go_enter Tryz.func208, Tryz.ntmps208
    go_wp2_with fail
    all_goals
      go_returns
      refine ⟨by first | rfl | (simp [hr.out]; done) | (simp [hr.out]; omega), ?_⟩
      repeat (first | exact Ext.refl _ | with_reducible assumption | refine Ext.alloc ?_ _ | refine Ext.drew ?_ | refine Ext.drewN ?_ _ | refine ext_gw ?_ _ | refine Ext.setCell ?_ (by first | (simp; done) | (simp [Upto.le_true, Upto.le_add]; done) | (simp; omega)) _)
  by_cases hb0 : b = 0
  · subst hb0
    have hr := hide (inR_yes (n := 0) (by omega))
    go_enter Tryz.func208, Tryz.ntmps208
    go_wp2_with fail
    all_goals
      go_returns
      refine ⟨by first | rfl | (simp [hr.out]; done) | (simp [hr.out]; omega), ?_⟩
      repeat (first | exact Ext.refl _ | with_reducible assumption | refine Ext.alloc ?_ _ | refine Ext.drew ?_ | refine Ext.drewN ?_ _ | refine ext_gw ?_ _ | refine Ext.setCell ?_ (by first | (simp; done) | (simp [Upto.le_true, Upto.le_add]; done) | (simp; omega)) _)
  have no : inR (a * b) = false → a * b < -9223372036854775808 ∨ 9223372036854775807 < a * b := fun h => by
    by_cases h1 : a * b < -9223372036854775808
    · exact .inl h1
    by_cases h2 : 9223372036854775807 < a * b
    · exact .inr h2
    exact absurd (inR_yes ⟨by omega, by omega⟩) (Bool.eq_false_iff.1 h)
  rcases (by omega : 0 < a ∨ a < 0) with sa | sa <;> rcases (by omega : 0 < b ∨ b < 0) with sb | sb
  · have hk := great_pp (a := a) sb
    have hm := Int.mul_pos sa sb
    cases hr : inR (a * b)
    · have hd : 9223372036854775807 / b < a := hk.2 (by have := no hr; omega)
      clear hk hm no
      go_enter Tryz.func208, Tryz.ntmps208
      go_wp2_with fail
      all_goals
        go_returns
        refine ⟨by first | rfl | (simp [hr]; done) | (simp [hr]; omega), ?_⟩
        repeat (first | exact Ext.refl _ | with_reducible assumption | refine Ext.alloc ?_ _ | refine Ext.drew ?_ | refine Ext.drewN ?_ _ | refine ext_gw ?_ _ | refine Ext.setCell ?_ (by first | (simp; done) | (simp [Upto.le_true, Upto.le_add]; done) | (simp; omega)) _)
    · have hd : a ≤ 9223372036854775807 / b := by have := inR_iff.1 hr; have := mt hk.1; omega
      clear hk hm no
      go_enter Tryz.func208, Tryz.ntmps208
      go_wp2_with fail
      all_goals
        go_returns
        refine ⟨by first | rfl | (simp [hr]; done) | (simp [hr]; omega), ?_⟩
        repeat (first | exact Ext.refl _ | with_reducible assumption | refine Ext.alloc ?_ _ | refine Ext.drew ?_ | refine Ext.drewN ?_ _ | refine ext_gw ?_ _ | refine Ext.setCell ?_ (by first | (simp; done) | (simp [Upto.le_true, Upto.le_add]; done) | (simp; omega)) _)
  · have hk := great_pn (b := b) sa
    have hm := Int.mul_neg_of_pos_of_neg sa sb
    have hq := quo_least sa
    cases hr : inR (a * b)
    · have hd : b < -(9223372036854775808 / a) := hk.2 (by have := no hr; omega)
      clear hk hm no
      go_enter Tryz.func208, Tryz.ntmps208
      go_wp2_with fail
      all_goals
        go_returns
        refine ⟨by first | rfl | (simp [hr]; done) | (simp [hr]; omega), ?_⟩
        repeat (first | exact Ext.refl _ | with_reducible assumption | refine Ext.alloc ?_ _ | refine Ext.drew ?_ | refine Ext.drewN ?_ _ | refine ext_gw ?_ _ | refine Ext.setCell ?_ (by first | (simp; done) | (simp [Upto.le_true, Upto.le_add]; done) | (simp; omega)) _)
    · have hd : -(9223372036854775808 / a) ≤ b := by have := inR_iff.1 hr; have := mt hk.1; omega
      clear hk hm no
      go_enter Tryz.func208, Tryz.ntmps208
      go_wp2_with fail
      all_goals
        go_returns
        refine ⟨by first | rfl | (simp [hr]; done) | (simp [hr]; omega), ?_⟩
        repeat (first | exact Ext.refl _ | with_reducible assumption | refine Ext.alloc ?_ _ | refine Ext.drew ?_ | refine Ext.drewN ?_ _ | refine ext_gw ?_ _ | refine Ext.setCell ?_ (by first | (simp; done) | (simp [Upto.le_true, Upto.le_add]; done) | (simp; omega)) _)
  · have hk := great_pn (b := a) sb
    rw [Int.mul_comm b a] at hk
    have hm := Int.mul_neg_of_neg_of_pos sa sb
    have hq := quo_least sb
    cases hr : inR (a * b)
    · have hd : a < -(9223372036854775808 / b) := hk.2 (by have := no hr; omega)
      clear hk hm no
      go_enter Tryz.func208, Tryz.ntmps208
      go_wp2_with fail
      all_goals
        go_returns
        refine ⟨by first | rfl | (simp [hr]; done) | (simp [hr]; omega), ?_⟩
        repeat (first | exact Ext.refl _ | with_reducible assumption | refine Ext.alloc ?_ _ | refine Ext.drew ?_ | refine Ext.drewN ?_ _ | refine ext_gw ?_ _ | refine Ext.setCell ?_ (by first | (simp; done) | (simp [Upto.le_true, Upto.le_add]; done) | (simp; omega)) _)
    · have hd : -(9223372036854775808 / b) ≤ a := by have := inR_iff.1 hr; have := mt hk.1; omega
      clear hk hm no
      go_enter Tryz.func208, Tryz.ntmps208
      go_wp2_with fail
      all_goals
        go_returns
        refine ⟨by first | rfl | (simp [hr]; done) | (simp [hr]; omega), ?_⟩
        repeat (first | exact Ext.refl _ | with_reducible assumption | refine Ext.alloc ?_ _ | refine Ext.drew ?_ | refine Ext.drewN ?_ _ | refine ext_gw ?_ _ | refine Ext.setCell ?_ (by first | (simp; done) | (simp [Upto.le_true, Upto.le_add]; done) | (simp; omega)) _)
  · have hk := great_nn (a := a) sb
    have hm := Int.mul_pos_of_neg_of_neg sa sb
    have hq := quo_most sb
    cases hr : inR (a * b)
    · have hd : a < 9223372036854775807 / b := hk.2 (by have := no hr; omega)
      clear hk hm no
      go_enter Tryz.func208, Tryz.ntmps208
      go_wp2_with fail
      all_goals
        go_returns
        refine ⟨by first | rfl | (simp [hr]; done) | (simp [hr]; omega), ?_⟩
        repeat (first | exact Ext.refl _ | with_reducible assumption | refine Ext.alloc ?_ _ | refine Ext.drew ?_ | refine Ext.drewN ?_ _ | refine ext_gw ?_ _ | refine Ext.setCell ?_ (by first | (simp; done) | (simp [Upto.le_true, Upto.le_add]; done) | (simp; omega)) _)
    · have hd : 9223372036854775807 / b ≤ a := by have := inR_iff.1 hr; have := mt hk.1; omega
      clear hk hm no
      go_enter Tryz.func208, Tryz.ntmps208
      go_wp2_with fail
      all_goals
        go_returns
        refine ⟨by first | rfl | (simp [hr]; done) | (simp [hr]; omega), ?_⟩
        repeat (first | exact Ext.refl _ | with_reducible assumption | refine Ext.alloc ?_ _ | refine Ext.drew ?_ | refine Ext.drewN ?_ _ | refine ext_gw ?_ _ | refine Ext.setCell ?_ (by first | (simp; done) | (simp [Upto.le_true, Upto.le_add]; done) | (simp; omega)) _)

set_option maxHeartbeats 1000000 in
theorem mul_c (a b : Int) (ha : -9223372036854775808 ≤ a ∧ a ≤ 9223372036854775807) (hb : -9223372036854775808 ≤ b ∧ b ≤ 9223372036854775807) (w : World) : Calls Tryz.prog 204 #[.int .i64 a, .int .i64 b] w fun e w' => e = .returned (.tuple #[.int .i64 (okF (inR (a * b)) (a * b)), .int .i64 (ovE (inR (a * b)))]) ∧ Ext w w' := by
  cases hr : inR (a * b)
  · go_enter Tryz.func204, Tryz.ntmps204
    go_wp2_with (go_at_call 208; (first | (with_reducible refine seq_gw' (tooGreat_c _ _ ha hb _) ?_) | (with_reducible refine seq_gw (tooGreat_c _ _ ha hb _) ?_)); intro g)
    all_goals
      go_returns
      refine ⟨by first | rfl | (simp [okF, ovE, hr]; done) | (simp [okF, ovE, hr]; omega), ?_⟩
      repeat (first | exact Ext.refl _ | with_reducible assumption | refine Ext.alloc ?_ _ | refine Ext.drew ?_ | refine Ext.drewN ?_ _ | refine ext_gw ?_ _ | refine Ext.setCell ?_ (by first | (simp; done) | (simp [Upto.le_true, Upto.le_add]; done) | (simp; omega)) _)
  have hw : IntKind.i64.wrap (a * b) = a * b := IntWalk.i64_in _ (inR_iff.1 hr)
  go_enter Tryz.func204, Tryz.ntmps204
  go_wp2_with (go_at_call 208; (first | (with_reducible refine seq_gw' (tooGreat_c _ _ ha hb _) ?_) | (with_reducible refine seq_gw (tooGreat_c _ _ ha hb _) ?_)); intro g)
  all_goals
    go_returns
    refine ⟨by first | rfl | (simp [okF, ovE, hr]; done) | (simp [okF, ovE, hr]; omega), ?_⟩
    repeat (first | exact Ext.refl _ | with_reducible assumption | refine Ext.alloc ?_ _ | refine Ext.drew ?_ | refine Ext.drewN ?_ _ | refine ext_gw ?_ _ | refine Ext.setCell ?_ (by first | (simp; done) | (simp [Upto.le_true, Upto.le_add]; done) | (simp; omega)) _)

end Go.Proofs.YtljkneajdndgjabGreat
