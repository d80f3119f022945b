/-
  A helper of ours: no claim of its own. (As NumB, without what rests on the library's shelf.) Products and quotients of layer 1 (num), the text of a number, and what must be whatever is asked.
-/
import Derived.Test.YtljkneajdndgjabGreatNumA
import Derived.WalkSmall
set_option linter.unusedVariables false
set_option linter.unusedSimpArgs false
namespace Go.Proofs.YtljkneajdndgjabGreat
open Go.RowKit
attribute [local go_sem] GW.cell GW.frozen In.eq_true In.le_true In.ne In.ne' In.ne_add In.ne_add' In.lt_add Upto.le_true Upto.le_add Upto.lt_add


theorem great_pp {a b : Int} (hb : 0 < b) : (9223372036854775807 / b < a) ↔ (9223372036854775807 < a * b) := Int.ediv_lt_iff_lt_mul hb
theorem great_pn {a b : Int} (ha : 0 < a) : (b < -(9223372036854775808 / a)) ↔ (a * b < -9223372036854775808) := by
  have h := Int.ediv_lt_iff_lt_mul (a := 9223372036854775808) (b := -b) ha
  rw [Int.neg_mul, Int.mul_comm b a] at h
  omega
theorem most_neg (b : Int) : 9223372036854775807 / b = -(9223372036854775807 / (-b)) := by
  rw [Int.ediv_neg, Int.neg_neg]
theorem great_nn {a b : Int} (hb : b < 0) : (a < 9223372036854775807 / b) ↔ (9223372036854775807 < a * b) := by
  rw [most_neg]
  have h := Int.ediv_lt_iff_lt_mul (a := 9223372036854775807) (b := -a) (c := -b) (by omega)
  rw [Int.neg_mul_neg] at h
  omega
theorem quo_least {a : Int} (ha : 0 < a) : IntKind.i64.wrap (-Int.tdiv 9223372036854775808 a) = -(9223372036854775808 / a) := by
  rw [Int.tdiv_eq_ediv_of_nonneg (by omega)]
  have h1 : 0 ≤ 9223372036854775808 / a := Int.ediv_nonneg (by omega) (by omega)
  have h2 : 9223372036854775808 / a ≤ 9223372036854775808 := Int.ediv_le_self _ (by omega)
  exact IntWalk.i64_in _ (by omega)
theorem quo_most {b : Int} (hb : b < 0) : IntKind.i64.wrap (Int.tdiv 9223372036854775807 b) = 9223372036854775807 / b := by
  rw [Int.tdiv_eq_ediv_of_nonneg (by omega), most_neg]
  have h1 : 0 ≤ 9223372036854775807 / (-b) := Int.ediv_nonneg (by omega) (by omega)
  have h2 : 9223372036854775807 / (-b) ≤ 9223372036854775807 := Int.ediv_le_self _ (by omega)
  exact IntWalk.i64_in _ (by omega)
theorem wrap_not {x y c b : Int} (hc : IntKind.i64.wrap x = c) (hx : ¬ (-9223372036854775808 ≤ x ∧ x ≤ 9223372036854775807)) (hb : -9223372036854775808 ≤ b ∧ b ≤ 9223372036854775807) (hb0 : b ≠ 0) (hy : x = y * b) : ¬ c.tdiv b = y := by
  intro h
  have h1 := Int.mul_tdiv_add_tmod c b
  rw [h, Int.mul_comm b y, ← hy] at h1
  have h2 : (c.tmod b).natAbs < b.natAbs := by rw [Int.natAbs_tmod]; exact Nat.mod_lt _ (by omega)
  rw [IntKind.wrap_i64] at hc
  omega

set_option maxHeartbeats 4000000 in
theorem tooGreat_c (a b : Int) (ha : -9223372036854775808 ≤ a ∧ a ≤ 9223372036854775807) (hb : -9223372036854775808 ≤ b ∧ b ≤ 9223372036854775807) (w : World) : Calls Tryz.prog 208 #[.int .i64 a, .int .i64 b] w fun e w' => e = .returned (.bool (!inR (a * b))) ∧ Ext w w' := by
  obtain ⟨a1, a2⟩ := ha
  obtain ⟨b1, b2⟩ := hb
  by_cases ha0 : a = 0
  · subst ha0
    have hr := hide (inR_yes (n := 0) (by omega))
    go_enter Tryz.func208, Tryz.ntmps208
    go_wp2_with fail
    all_goals
      go_returns
      refine ⟨by first | rfl | (simp [hr.out]; done) | (simp [hr.out]; omega), ?_⟩
      repeat (first | exact Ext.refl _ | with_reducible assumption | refine Ext.alloc ?_ _ | refine Ext.drew ?_ | refine Ext.drewN ?_ _ | refine ext_gw ?_ _ | refine Ext.setCell ?_ (by first | (simp; done) | (simp [Upto.le_true, Upto.le_add]; done) | (simp; omega)) _)
  by_cases hb0 : b = 0
  · subst hb0
    have hr := hide (inR_yes (n := 0) (by omega))
    go_enter Tryz.func208, Tryz.ntmps208
    go_wp2_with fail
    all_goals
      go_returns
      refine ⟨by first | rfl | (simp [hr.out]; done) | (simp [hr.out]; omega), ?_⟩
      repeat (first | exact Ext.refl _ | with_reducible assumption | refine Ext.alloc ?_ _ | refine Ext.drew ?_ | refine Ext.drewN ?_ _ | refine ext_gw ?_ _ | refine Ext.setCell ?_ (by first | (simp; done) | (simp [Upto.le_true, Upto.le_add]; done) | (simp; omega)) _)
  have no : inR (a * b) = false → a * b < -9223372036854775808 ∨ 9223372036854775807 < a * b := fun h => by
    by_cases h1 : a * b < -9223372036854775808
    · exact .inl h1
    by_cases h2 : 9223372036854775807 < a * b
    · exact .inr h2
    exact absurd (inR_yes ⟨by omega, by omega⟩) (Bool.eq_false_iff.1 h)
  rcases (by omega : 0 < a ∨ a < 0) with sa | sa <;> rcases (by omega : 0 < b ∨ b < 0) with sb | sb
  · have hk := great_pp (a := a) sb
    have hm := Int.mul_pos sa sb
    cases hr : inR (a * b)
    · have hd : 9223372036854775807 / b < a := hk.2 (by have := no hr; omega)
      clear hk hm no
      go_enter Tryz.func208, Tryz.ntmps208
      go_wp2_with fail
      all_goals
        go_returns
        refine ⟨by first | rfl | (simp [hr]; done) | (simp [hr]; omega), ?_⟩
        repeat (first | exact Ext.refl _ | with_reducible assumption | refine Ext.alloc ?_ _ | refine Ext.drew ?_ | refine Ext.drewN ?_ _ | refine ext_gw ?_ _ | refine Ext.setCell ?_ (by first | (simp; done) | (simp [Upto.le_true, Upto.le_add]; done) | (simp; omega)) _)
    · have hd : a ≤ 9223372036854775807 / b := by have := inR_iff.1 hr; have := mt hk.1; omega
      clear hk hm no
      go_enter Tryz.func208, Tryz.ntmps208
      go_wp2_with fail
      all_goals
        go_returns
        refine ⟨by first | rfl | (simp [hr]; done) | (simp [hr]; omega), ?_⟩
        repeat (first | exact Ext.refl _ | with_reducible assumption | refine Ext.alloc ?_ _ | refine Ext.drew ?_ | refine Ext.drewN ?_ _ | refine ext_gw ?_ _ | refine Ext.setCell ?_ (by first | (simp; done) | (simp [Upto.le_true, Upto.le_add]; done) | (simp; omega)) _)
  · have hk := great_pn (b := b) sa
    have hm := Int.mul_neg_of_pos_of_neg sa sb
    have hq := quo_least sa
    cases hr : inR (a * b)
    · have hd : b < -(9223372036854775808 / a) := hk.2 (by have := no hr; omega)
      clear hk hm no
      go_enter Tryz.func208, Tryz.ntmps208
      go_wp2_with fail
      all_goals
        go_returns
        refine ⟨by first | rfl | (simp [hr]; done) | (simp [hr]; omega), ?_⟩
        repeat (first | exact Ext.refl _ | with_reducible assumption | refine Ext.alloc ?_ _ | refine Ext.drew ?_ | refine Ext.drewN ?_ _ | refine ext_gw ?_ _ | refine Ext.setCell ?_ (by first | (simp; done) | (simp [Upto.le_true, Upto.le_add]; done) | (simp; omega)) _)
    · have hd : -(9223372036854775808 / a) ≤ b := by have := inR_iff.1 hr; have := mt hk.1; omega
      clear hk hm no
      go_enter Tryz.func208, Tryz.ntmps208
      go_wp2_with fail
      all_goals
        go_returns
        refine ⟨by first | rfl | (simp [hr]; done) | (simp [hr]; omega), ?_⟩
        repeat (first | exact Ext.refl _ | with_reducible assumption | refine Ext.alloc ?_ _ | refine Ext.drew ?_ | refine Ext.drewN ?_ _ | refine ext_gw ?_ _ | refine Ext.setCell ?_ (by first | (simp; done) | (simp [Upto.le_true, Upto.le_add]; done) | (simp; omega)) _)
  · have hk := great_pn (b := a) sb
    rw [Int.mul_comm b a] at hk
    have hm := Int.mul_neg_of_neg_of_pos sa sb
    have hq := quo_least sb
    cases hr : inR (a * b)
    · have hd : a < -(9223372036854775808 / b) := hk.2 (by have := no hr; omega)
      clear hk hm no
      go_enter Tryz.func208, Tryz.ntmps208
      go_wp2_with fail
      all_goals
        go_returns
        refine ⟨by first | rfl | (simp [hr]; done) | (simp [hr]; omega), ?_⟩
        repeat (first | exact Ext.refl _ | with_reducible assumption | refine Ext.alloc ?_ _ | refine Ext.drew ?_ | refine Ext.drewN ?_ _ | refine ext_gw ?_ _ | refine Ext.setCell ?_ (by first | (simp; done) | (simp [Upto.le_true, Upto.le_add]; done) | (simp; omega)) _)
    · have hd : -(9223372036854775808 / b) ≤ a := by have := inR_iff.1 hr; have := mt hk.1; omega
      clear hk hm no
      go_enter Tryz.func208, Tryz.ntmps208
      go_wp2_with fail
      all_goals
        go_returns
        refine ⟨by first | rfl | (simp [hr]; done) | (simp [hr]; omega), ?_⟩
        repeat (first | exact Ext.refl _ | with_reducible assumption | refine Ext.alloc ?_ _ | refine Ext.drew ?_ | refine Ext.drewN ?_ _ | refine ext_gw ?_ _ | refine Ext.setCell ?_ (by first | (simp; done) | (simp [Upto.le_true, Upto.le_add]; done) | (simp; omega)) _)
  · have hk := great_nn (a := a) sb
    have hm := Int.mul_pos_of_neg_of_neg sa sb
    have hq := quo_most sb
    cases hr : inR (a * b)
    · have hd : a < 9223372036854775807 / b := hk.2 (by have := no hr; omega)
      clear hk hm no
      go_enter Tryz.func208, Tryz.ntmps208
      go_wp2_with fail
      all_goals
        go_returns
        refine ⟨by first | rfl | (simp [hr]; done) | (simp [hr]; omega), ?_⟩
        repeat (first | exact Ext.refl _ | with_reducible assumption | refine Ext.alloc ?_ _ | refine Ext.drew ?_ | refine Ext.drewN ?_ _ | refine ext_gw ?_ _ | refine Ext.setCell ?_ (by first | (simp; done) | (simp [Upto.le_true, Upto.le_add]; done) | (simp; omega)) _)
    · have hd : 9223372036854775807 / b ≤ a := by have := inR_iff.1 hr; have := mt hk.1; omega
      clear hk hm no
      go_enter Tryz.func208, Tryz.ntmps208
      go_wp2_with fail
      all_goals
        go_returns
        refine ⟨by first | rfl | (simp [hr]; done) | (simp [hr]; omega), ?_⟩
        repeat (first | exact Ext.refl _ | with_reducible assumption | refine Ext.alloc ?_ _ | refine Ext.drew ?_ | refine Ext.drewN ?_ _ | refine ext_gw ?_ _ | refine Ext.setCell ?_ (by first | (simp; done) | (simp [Upto.le_true, Upto.le_add]; done) | (simp; omega)) _)

set_option maxHeartbeats 1000000 in
theorem mul_c (a b : Int) (ha : -9223372036854775808 ≤ a ∧ a ≤ 9223372036854775807) (hb : -9223372036854775808 ≤ b ∧ b ≤ 9223372036854775807) (w : World) : Calls Tryz.prog 204 #[.int .i64 a, .int .i64 b] w fun e w' => e = .returned (.tuple #[.int .i64 (okF (inR (a * b)) (a * b)), .int .i64 (ovE (inR (a * b)))]) ∧ Ext w w' := by
  cases hr : inR (a * b)
  · go_enter Tryz.func204, Tryz.ntmps204
    go_wp2_with (go_at_call 208; (first | (with_reducible refine seq_gw' (tooGreat_c _ _ ha hb _) ?_) | (with_reducible refine seq_gw (tooGreat_c _ _ ha hb _) ?_)); intro g)
    all_goals
      go_returns
      refine ⟨by first | rfl | (simp [okF, ovE, hr]; done) | (simp [okF, ovE, hr]; omega), ?_⟩
      repeat (first | exact Ext.refl _ | with_reducible assumption | refine Ext.alloc ?_ _ | refine Ext.drew ?_ | refine Ext.drewN ?_ _ | refine ext_gw ?_ _ | refine Ext.setCell ?_ (by first | (simp; done) | (simp [Upto.le_true, Upto.le_add]; done) | (simp; omega)) _)
  have hw : IntKind.i64.wrap (a * b) = a * b := IntWalk.i64_in _ (inR_iff.1 hr)
  go_enter Tryz.func204, Tryz.ntmps204
  go_wp2_with (go_at_call 208; (first | (with_reducible refine seq_gw' (tooGreat_c _ _ ha hb _) ?_) | (with_reducible refine seq_gw (tooGreat_c _ _ ha hb _) ?_)); intro g)
  all_goals
    go_returns
    refine ⟨by first | rfl | (simp [okF, ovE, hr]; done) | (simp [okF, ovE, hr]; omega), ?_⟩
    repeat (first | exact Ext.refl _ | with_reducible assumption | refine Ext.alloc ?_ _ | refine Ext.drew ?_ | refine Ext.drewN ?_ _ | refine ext_gw ?_ _ | refine Ext.setCell ?_ (by first | (simp; done) | (simp [Upto.le_true, Upto.le_add]; done) | (simp; omega)) _)

set_option maxHeartbeats 4000000 in
theorem refMul_c (a b : Int) (ha : -9223372036854775808 ≤ a ∧ a ≤ 9223372036854775807) (hb : -9223372036854775808 ≤ b ∧ b ≤ 9223372036854775807) (w : World) : Calls Tryz.prog 185 #[.int .i64 a, .int .i64 b] w fun e w' => e = .returned (.tuple #[.int .i64 (okF (inR (a * b)) (a * b)), .int .i64 (ovE (inR (a * b)))]) ∧ Ext w w' := by
  by_cases h0 : a = 0
  · subst h0
    have hr := inR_yes (n := 0) (by omega)
    clear ha hb
    go_enter Tryz.func185, Tryz.ntmps185
    go_wp2_with fail
    all_goals
      go_returns
      refine ⟨by first | rfl | (simp [okF, ovE, hr]; done) | (simp [okF, ovE, hr]; omega), ?_⟩
      repeat (first | exact Ext.refl _ | with_reducible assumption | refine Ext.alloc ?_ _ | refine Ext.drew ?_ | refine Ext.drewN ?_ _ | refine ext_gw ?_ _ | refine Ext.setCell ?_ (by first | (simp; done) | (simp [Upto.le_true, Upto.le_add]; done) | (simp; omega)) _)
  have e0 : (a == 0) = false := by simp [h0]
  by_cases k0 : b = 0
  · subst k0
    have hr := inR_yes (n := 0) (by omega)
    clear ha hb
    go_enter Tryz.func185, Tryz.ntmps185
    go_wp2_with fail
    all_goals
      go_returns
      refine ⟨by first | rfl | (simp [okF, ovE, hr]; done) | (simp [okF, ovE, hr]; omega), ?_⟩
      repeat (first | exact Ext.refl _ | with_reducible assumption | refine Ext.alloc ?_ _ | refine Ext.drew ?_ | refine Ext.drewN ?_ _ | refine ext_gw ?_ _ | refine Ext.setCell ?_ (by first | (simp; done) | (simp [Upto.le_true, Upto.le_add]; done) | (simp; omega)) _)
  have f0 : (b == 0) = false := by simp [k0]
  by_cases x1 : a = -1 ∧ b = -9223372036854775808
  · obtain ⟨rfl, rfl⟩ := x1
    have hr := inR_no (n := 9223372036854775808) (by omega)
    clear ha hb
    go_enter Tryz.func185, Tryz.ntmps185
    go_wp2_with fail
    all_goals
      go_returns
      refine ⟨by first | rfl | (simp [okF, ovE, hr]; done) | (simp [okF, ovE, hr]; omega), ?_⟩
      repeat (first | exact Ext.refl _ | with_reducible assumption | refine Ext.alloc ?_ _ | refine Ext.drew ?_ | refine Ext.drewN ?_ _ | refine ext_gw ?_ _ | refine Ext.setCell ?_ (by first | (simp; done) | (simp [Upto.le_true, Upto.le_add]; done) | (simp; omega)) _)
  by_cases x2 : b = -1 ∧ a = -9223372036854775808
  · obtain ⟨rfl, rfl⟩ := x2
    have hr := inR_no (n := 9223372036854775808) (by omega)
    clear ha hb
    go_enter Tryz.func185, Tryz.ntmps185
    go_wp2_with fail
    all_goals
      go_returns
      refine ⟨by first | rfl | (simp [okF, ovE, hr]; done) | (simp [okF, ovE, hr]; omega), ?_⟩
      repeat (first | exact Ext.refl _ | with_reducible assumption | refine Ext.alloc ?_ _ | refine Ext.drew ?_ | refine Ext.drewN ?_ _ | refine ext_gw ?_ _ | refine Ext.setCell ?_ (by first | (simp; done) | (simp [Upto.le_true, Upto.le_add]; done) | (simp; omega)) _)
  have core : ∀ c q, IntKind.i64.wrap (a * b) = c → IntKind.i64.wrap (c.tdiv b) = q → (inR (a * b) = true → c = a * b ∧ q = a) → (inR (a * b) = false → (q == a) = false) →
      Calls Tryz.prog 185 #[.int .i64 a, .int .i64 b] w fun e w' => e = .returned (.tuple #[.int .i64 (okF (inR (a * b)) (a * b)), .int .i64 (ovE (inR (a * b)))]) ∧ Ext w w' := by
    intro c q hc hq y n
    clear ha hb
    cases hr : inR (a * b)
    · have hn := n hr
      clear y n
      by_cases y1 : a = -1 <;> by_cases y2 : b = -1
      · exfalso; subst y1; subst y2; exact absurd hr (by decide +kernel)
      · have e1 : (b == -9223372036854775808) = false := by simp; intro h; exact x1 ⟨y1, h⟩
        have e2 : (a == -1) = true := by simp [y1]
        have e3 : (b == -1) = false := by simp [y2]
        clear x1 x2 y1 y2 h0
        go_enter Tryz.func185, Tryz.ntmps185
        go_wp2_with fail
        all_goals
          go_returns
          refine ⟨by first | rfl | (simp [okF, ovE, hr]; done) | (simp [okF, ovE, hr]; omega), ?_⟩
          repeat (first | exact Ext.refl _ | with_reducible assumption | refine Ext.alloc ?_ _ | refine Ext.drew ?_ | refine Ext.drewN ?_ _ | refine ext_gw ?_ _ | refine Ext.setCell ?_ (by first | (simp; done) | (simp [Upto.le_true, Upto.le_add]; done) | (simp; omega)) _)
      · have e1 : (a == -9223372036854775808) = false := by simp; intro h; exact x2 ⟨y2, h⟩
        have e2 : (a == -1) = false := by simp [y1]
        have e3 : (b == -1) = true := by simp [y2]
        clear x1 x2 y1 y2 h0
        go_enter Tryz.func185, Tryz.ntmps185
        go_wp2_with fail
        all_goals
          go_returns
          refine ⟨by first | rfl | (simp [okF, ovE, hr]; done) | (simp [okF, ovE, hr]; omega), ?_⟩
          repeat (first | exact Ext.refl _ | with_reducible assumption | refine Ext.alloc ?_ _ | refine Ext.drew ?_ | refine Ext.drewN ?_ _ | refine ext_gw ?_ _ | refine Ext.setCell ?_ (by first | (simp; done) | (simp [Upto.le_true, Upto.le_add]; done) | (simp; omega)) _)
      · have e2 : (a == -1) = false := by simp [y1]
        have e3 : (b == -1) = false := by simp [y2]
        clear x1 x2 y1 y2 h0
        go_enter Tryz.func185, Tryz.ntmps185
        go_wp2_with fail
        all_goals
          go_returns
          refine ⟨by first | rfl | (simp [okF, ovE, hr]; done) | (simp [okF, ovE, hr]; omega), ?_⟩
          repeat (first | exact Ext.refl _ | with_reducible assumption | refine Ext.alloc ?_ _ | refine Ext.drew ?_ | refine Ext.drewN ?_ _ | refine ext_gw ?_ _ | refine Ext.setCell ?_ (by first | (simp; done) | (simp [Upto.le_true, Upto.le_add]; done) | (simp; omega)) _)
    · obtain ⟨yc, yq⟩ := y hr
      have hn : (q == a) = true := by simp [yq]
      have Hyc := hide yc
      clear y n yc yq
      by_cases y1 : a = -1 <;> by_cases y2 : b = -1
      · have e1 : (b == -9223372036854775808) = false := by simp; intro h; exact x1 ⟨y1, h⟩
        have e4 : (a == -9223372036854775808) = false := by simp; intro h; exact x2 ⟨y2, h⟩
        have e2 : (a == -1) = true := by simp [y1]
        have e3 : (b == -1) = true := by simp [y2]
        clear x1 x2 y1 y2 h0
        go_enter Tryz.func185, Tryz.ntmps185
        go_wp2_with fail
        all_goals
          go_returns
          refine ⟨by first | rfl | (simp [okF, ovE, hr, Hyc.out]; done) | (simp [okF, ovE, hr, Hyc.out]; omega), ?_⟩
          repeat (first | exact Ext.refl _ | with_reducible assumption | refine Ext.alloc ?_ _ | refine Ext.drew ?_ | refine Ext.drewN ?_ _ | refine ext_gw ?_ _ | refine Ext.setCell ?_ (by first | (simp; done) | (simp [Upto.le_true, Upto.le_add]; done) | (simp; omega)) _)
      · have e1 : (b == -9223372036854775808) = false := by simp; intro h; exact x1 ⟨y1, h⟩
        have e2 : (a == -1) = true := by simp [y1]
        have e3 : (b == -1) = false := by simp [y2]
        clear x1 x2 y1 y2 h0
        go_enter Tryz.func185, Tryz.ntmps185
        go_wp2_with fail
        all_goals
          go_returns
          refine ⟨by first | rfl | (simp [okF, ovE, hr, Hyc.out]; done) | (simp [okF, ovE, hr, Hyc.out]; omega), ?_⟩
          repeat (first | exact Ext.refl _ | with_reducible assumption | refine Ext.alloc ?_ _ | refine Ext.drew ?_ | refine Ext.drewN ?_ _ | refine ext_gw ?_ _ | refine Ext.setCell ?_ (by first | (simp; done) | (simp [Upto.le_true, Upto.le_add]; done) | (simp; omega)) _)
      · have e1 : (a == -9223372036854775808) = false := by simp; intro h; exact x2 ⟨y2, h⟩
        have e2 : (a == -1) = false := by simp [y1]
        have e3 : (b == -1) = true := by simp [y2]
        clear x1 x2 y1 y2 h0
        go_enter Tryz.func185, Tryz.ntmps185
        go_wp2_with fail
        all_goals
          go_returns
          refine ⟨by first | rfl | (simp [okF, ovE, hr, Hyc.out]; done) | (simp [okF, ovE, hr, Hyc.out]; omega), ?_⟩
          repeat (first | exact Ext.refl _ | with_reducible assumption | refine Ext.alloc ?_ _ | refine Ext.drew ?_ | refine Ext.drewN ?_ _ | refine ext_gw ?_ _ | refine Ext.setCell ?_ (by first | (simp; done) | (simp [Upto.le_true, Upto.le_add]; done) | (simp; omega)) _)
      · have e2 : (a == -1) = false := by simp [y1]
        have e3 : (b == -1) = false := by simp [y2]
        clear x1 x2 y1 y2 h0
        go_enter Tryz.func185, Tryz.ntmps185
        go_wp2_with fail
        all_goals
          go_returns
          refine ⟨by first | rfl | (simp [okF, ovE, hr, Hyc.out]; done) | (simp [okF, ovE, hr, Hyc.out]; omega), ?_⟩
          repeat (first | exact Ext.refl _ | with_reducible assumption | refine Ext.alloc ?_ _ | refine Ext.drew ?_ | refine Ext.drewN ?_ _ | refine ext_gw ?_ _ | refine Ext.setCell ?_ (by first | (simp; done) | (simp [Upto.le_true, Upto.le_add]; done) | (simp; omega)) _)
  refine core _ _ rfl rfl (fun hr => ?_) (fun hr => ?_)
  · have e1 : IntKind.i64.wrap (a * b) = a * b := IntWalk.i64_in _ (inR_iff.1 hr)
    rw [e1]
    refine ⟨rfl, ?_⟩
    rw [Int.mul_tdiv_cancel _ k0]
    exact IntWalk.i64_in _ ha
  · have hx := fun h => Bool.eq_false_iff.1 hr (inR_yes h)
    have hc : -9223372036854775808 ≤ IntKind.i64.wrap (a * b) ∧ IntKind.i64.wrap (a * b) ≤ 9223372036854775807 := by rw [IntKind.wrap_i64]; omega
    have hb1 : b ≠ -1 := by
      intro h; subst h
      refine hx ?_
      have : a ≠ -9223372036854775808 := fun h => x2 ⟨rfl, h⟩
      omega
    rw [IntWalk.i64_in _ (tdiv_in hc (fun h => hb1 h.2))]
    simp
    exact wrap_not rfl hx hb k0 rfl


end Go.Proofs.YtljkneajdndgjabGreat
