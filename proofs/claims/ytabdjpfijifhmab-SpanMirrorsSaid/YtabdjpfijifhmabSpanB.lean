/-
  A helper of ours: no claim of its own. Shift, Mirror and Relate of layer 2 (span), and those of the document's own answer: one contract each.
-/
import Derived.Test.YtabdjpfijifhmabSpanA
set_option linter.unusedVariables false
set_option linter.unusedSimpArgs false
namespace Go.Proofs.Ytabdjpfijifhmab
open Go.RowKit
attribute [local go_sem] GW.cell GW.frozen In.eq_true In.le_true In.ne In.ne' In.ne_add In.ne_add' In.lt_add Upto.le_true Upto.le_add Upto.lt_add
open Floats
theorem number_c (a b : Int) (w : World) : Calls Try.prog 14 #[.agg #[.int .i64 (a), .int .i64 (b)]] w fun e w' => e = .returned (.complex .f64 (floatOfInt .f64 a) (floatOfInt .f64 b)) ∧ Ext w w' := by
  go_enter Try.func14, Try.ntmps14
  go_wp2_with fail
  all_goals
    go_returns
    refine ⟨by first | rfl | (simp []; done) | (simp []; omega), ?_⟩
    repeat (first | exact Ext.refl _ | with_reducible assumption | refine Ext.alloc ?_ _ | refine Ext.drew ?_ | refine Ext.drewN ?_ _ | refine ext_gw ?_ _ | refine Ext.setCell ?_ (by first | (simp; done) | (simp [Upto.le_true, Upto.le_add]; done) | (simp; omega)) _)

theorem both_c (d : Int) (w : World) : Calls Try.prog 12 #[.int .i64 d] w fun e w' => e = .returned (.complex .f64 (floatOfInt .f64 d) (floatOfInt .f64 d)) ∧ w = w' := by
  go_enter Try.func12, Try.ntmps12
  go_wp2_with fail
  all_goals
    go_returns
    refine ⟨by first | rfl | (simp []; done) | (simp []; omega), ?_⟩
    exact rfl

theorem exchanged_c (x y : Nat) (w : World) : Calls Try.prog 13 #[.complex .f64 x y] w fun e w' => e = .returned (.complex .f64 y x) ∧ w = w' := by
  go_enter Try.func13, Try.ntmps13
  go_wp2_with fail
  all_goals
    go_returns
    refine ⟨by first | rfl | (simp []; done) | (simp []; omega), ?_⟩
    exact rfl

theorem spanOf_c (x y : Nat) (a b : Int) (hx : Rep x a) (hy : Rep y b) (ha : a.natAbs ≤ 2 ^ 52) (hb : b.natAbs ≤ 2 ^ 52) (w : World) : Calls Try.prog 11 #[.complex .f64 x y] w fun e w' => e = .returned (.tuple #[.agg #[.int .i64 (okF (mayB (a) (b)) (a)), .int .i64 (okF (mayB (a) (b)) (b))], .int .i64 (mkE (a) (b))]) ∧ Ext w w' := by
  have c1 := fun w => run_convert_float_int (P := Try.prog) w 45 3 .f64 .i64 x a (by kernel_rfl) Try.underlying3 (toInt_rep hx ha)
  have c2 := fun w => run_convert_float_int (P := Try.prog) w 45 3 .f64 .i64 y b (by kernel_rfl) Try.underlying3 (toInt_rep hy hb)
  go_enter Try.func11, Try.ntmps11
  go_wp2_with (go_at_call 15; (first | refine seq_gw' (make_c _ _ _) ?_ | refine seq_gw (make_c _ _ _) ?_); intro g)
  all_goals
    go_returns
    refine ⟨by first | rfl | (simp []; done) | (simp []; omega), ?_⟩
    repeat (first | exact Ext.refl _ | with_reducible assumption | refine Ext.alloc ?_ _ | refine Ext.drew ?_ | refine Ext.drewN ?_ _ | refine ext_gw ?_ _ | refine Ext.setCell ?_ (by first | (simp; done) | (simp [Upto.le_true, Upto.le_add]; done) | (simp; omega)) _)


def shiftE (a b d : Int) : Int := if mayB a b then (if d < -1125899906842624 ∨ d > 1125899906842624 then 13 else mkE (a + d) (b + d)) else 14
def shiftF (a b d : Int) : Bool := mayB a b && decide (-1125899906842624 ≤ d) && decide (d ≤ 1125899906842624) && mayB (a + d) (b + d)
def mirrorE (a b s : Int) : Int := if mayB a b then (if s < 0 ∨ s > 2251799813685248 then 13 else mkE (s - b) (s - a)) else 14
def mirrorF (a b s : Int) : Bool := mayB a b && decide (0 ≤ s) && decide (s ≤ 2251799813685248) && mayB (s - b) (s - a)
set_option maxHeartbeats 1000000 in
theorem shift_c (a b d : Int) (w : World) : Calls Try.prog 9 #[.agg #[.int .i64 (a), .int .i64 (b)], .int .i64 d] w fun e w' => e = .returned (.tuple #[.agg #[.int .i64 (okF (shiftF a b d) (a + d)), .int .i64 (okF (shiftF a b d) (b + d))], .int .i64 (shiftE a b d)]) ∧ Ext w w' := by
  cases h0 : mayB a b
  · go_enter Try.func9, Try.ntmps9
    go_wp2_with (go_at_call 10; (first | refine seq_gw' (may_c _ _ _) ?_ | refine seq_gw (may_c _ _ _) ?_); intro g)
    all_goals
      go_returns
      refine ⟨by first | rfl | (simp [shiftE, shiftF, okF, *]; done) | (simp [shiftE, shiftF, okF, *]; omega), ?_⟩
      repeat (first | exact Ext.refl _ | with_reducible assumption | refine Ext.alloc ?_ _ | refine Ext.drew ?_ | refine Ext.drewN ?_ _ | refine ext_gw ?_ _ | refine Ext.setCell ?_ (by first | (simp; done) | (simp [Upto.le_true, Upto.le_add]; done) | (simp; omega)) _)

  obtain ⟨l1, l2, l3, l4, l5⟩ := mayB_lt h0
  by_cases h1 : d < -1125899906842624
  · go_enter Try.func9, Try.ntmps9
    go_wp2_with (go_at_call 10; (first | refine seq_gw' (may_c _ _ _) ?_ | refine seq_gw (may_c _ _ _) ?_); intro g)
    all_goals
      go_returns
      refine ⟨by first | rfl | (simp [shiftE, shiftF, okF, *]; done) | (simp [shiftE, shiftF, okF, *]; omega), ?_⟩
      repeat (first | exact Ext.refl _ | with_reducible assumption | refine Ext.alloc ?_ _ | refine Ext.drew ?_ | refine Ext.drewN ?_ _ | refine ext_gw ?_ _ | refine Ext.setCell ?_ (by first | (simp; done) | (simp [Upto.le_true, Upto.le_add]; done) | (simp; omega)) _)

  by_cases h2 : d > 1125899906842624
  · go_enter Try.func9, Try.ntmps9
    go_wp2_with (go_at_call 10; (first | refine seq_gw' (may_c _ _ _) ?_ | refine seq_gw (may_c _ _ _) ?_); intro g)
    all_goals
      go_returns
      refine ⟨by first | rfl | (simp [shiftE, shiftF, okF, *]; done) | (simp [shiftE, shiftF, okF, *]; omega), ?_⟩
      repeat (first | exact Ext.refl _ | with_reducible assumption | refine Ext.alloc ?_ _ | refine Ext.drew ?_ | refine Ext.drewN ?_ _ | refine ext_gw ?_ _ | refine Ext.setCell ?_ (by first | (simp; done) | (simp [Upto.le_true, Upto.le_add]; done) | (simp; omega)) _)

  have k1 : -1125899906842624 ≤ d := by omega
  have k2 : d ≤ 1125899906842624 := by omega
  obtain ⟨z1, hz1, r1⟩ := add_rep (ofInt_rep a (by omega)) (ofInt_rep d (by omega)) (by omega)
  obtain ⟨z2, hz2, r2⟩ := add_rep (ofInt_rep b (by omega)) (ofInt_rep d (by omega)) (by omega)
  have hrun := fun w => run_complex_sum (P := Try.prog) w .add (.inl rfl) 36 .f64 _ _ _ _ z1 z2 (show cSumBits .add .f64 (floatOfInt .f64 a) (floatOfInt .f64 b) (floatOfInt .f64 d) (floatOfInt .f64 d) = some (z1, z2) by simp [cSumBits, hz1, hz2])
  clear hz1 hz2
  go_enter Try.func9, Try.ntmps9
  go_wp2_with (first | (go_at_call 10; (first | refine seq_gw' (may_c _ _ _) ?_ | refine seq_gw (may_c _ _ _) ?_); intro g) | (go_at_call 14; (first | refine seq_gw' (number_c _ _ _) ?_ | refine seq_gw (number_c _ _ _) ?_); intro g) | (go_at_call 12; refine (both_c _ _).mono ?_; rintro e w' ⟨rfl, rfl⟩) | (go_at_call 11; (first | refine seq_gw' (spanOf_c _ _ _ _ r1 r2 (by omega) (by omega) _) ?_ | refine seq_gw (spanOf_c _ _ _ _ r1 r2 (by omega) (by omega) _) ?_); intro g))
  all_goals
    go_returns
    refine ⟨by first | rfl | (simp [shiftE, shiftF, okF, *]; done) | (simp [shiftE, shiftF, okF, *]; omega), ?_⟩
    repeat (first | exact Ext.refl _ | with_reducible assumption | refine Ext.alloc ?_ _ | refine Ext.drew ?_ | refine Ext.drewN ?_ _ | refine ext_gw ?_ _ | refine Ext.setCell ?_ (by first | (simp; done) | (simp [Upto.le_true, Upto.le_add]; done) | (simp; omega)) _)



set_option maxHeartbeats 1000000 in
theorem mirror_c (a b s : Int) (w : World) : Calls Try.prog 5 #[.agg #[.int .i64 (a), .int .i64 (b)], .int .i64 s] w fun e w' => e = .returned (.tuple #[.agg #[.int .i64 (okF (mirrorF a b s) (s - b)), .int .i64 (okF (mirrorF a b s) (s - a))], .int .i64 (mirrorE a b s)]) ∧ Ext w w' := by
  cases h0 : mayB a b
  · go_enter Try.func5, Try.ntmps5
    go_wp2_with (go_at_call 10; (first | refine seq_gw' (may_c _ _ _) ?_ | refine seq_gw (may_c _ _ _) ?_); intro g)
    all_goals
      go_returns
      refine ⟨by first | rfl | (simp [mirrorE, mirrorF, okF, *]; done) | (simp [mirrorE, mirrorF, okF, *]; omega), ?_⟩
      repeat (first | exact Ext.refl _ | with_reducible assumption | refine Ext.alloc ?_ _ | refine Ext.drew ?_ | refine Ext.drewN ?_ _ | refine ext_gw ?_ _ | refine Ext.setCell ?_ (by first | (simp; done) | (simp [Upto.le_true, Upto.le_add]; done) | (simp; omega)) _)

  obtain ⟨l1, l2, l3, l4, l5⟩ := mayB_lt h0
  by_cases h1 : s < 0
  · go_enter Try.func5, Try.ntmps5
    go_wp2_with (go_at_call 10; (first | refine seq_gw' (may_c _ _ _) ?_ | refine seq_gw (may_c _ _ _) ?_); intro g)
    all_goals
      go_returns
      refine ⟨by first | rfl | (simp [mirrorE, mirrorF, okF, *]; done) | (simp [mirrorE, mirrorF, okF, *]; omega), ?_⟩
      repeat (first | exact Ext.refl _ | with_reducible assumption | refine Ext.alloc ?_ _ | refine Ext.drew ?_ | refine Ext.drewN ?_ _ | refine ext_gw ?_ _ | refine Ext.setCell ?_ (by first | (simp; done) | (simp [Upto.le_true, Upto.le_add]; done) | (simp; omega)) _)

  by_cases h2 : s > 2251799813685248
  · go_enter Try.func5, Try.ntmps5
    go_wp2_with (go_at_call 10; (first | refine seq_gw' (may_c _ _ _) ?_ | refine seq_gw (may_c _ _ _) ?_); intro g)
    all_goals
      go_returns
      refine ⟨by first | rfl | (simp [mirrorE, mirrorF, okF, *]; done) | (simp [mirrorE, mirrorF, okF, *]; omega), ?_⟩
      repeat (first | exact Ext.refl _ | with_reducible assumption | refine Ext.alloc ?_ _ | refine Ext.drew ?_ | refine Ext.drewN ?_ _ | refine ext_gw ?_ _ | refine Ext.setCell ?_ (by first | (simp; done) | (simp [Upto.le_true, Upto.le_add]; done) | (simp; omega)) _)

  have k1 : 0 ≤ s := by omega
  have k2 : s ≤ 2251799813685248 := by omega
  obtain ⟨z1, hz1, r1⟩ := sub_rep (ofInt_rep s (by omega)) (ofInt_rep b (by omega)) (by omega)
  obtain ⟨z2, hz2, r2⟩ := sub_rep (ofInt_rep s (by omega)) (ofInt_rep a (by omega)) (by omega)
  have hrun := fun w => run_complex_sum (P := Try.prog) w .sub (.inr rfl) 36 .f64 _ _ _ _ z1 z2 (show cSumBits .sub .f64 (floatOfInt .f64 s) (floatOfInt .f64 s) (floatOfInt .f64 b) (floatOfInt .f64 a) = some (z1, z2) by simp [cSumBits, hz1, hz2])
  clear hz1 hz2
  go_enter Try.func5, Try.ntmps5
  go_wp2_with (go_at_call 10; (first | refine seq_gw' (may_c _ _ _) ?_ | refine seq_gw (may_c _ _ _) ?_); intro g)
  refine wp_region_gw_tail 9 (by kernel_rfl) (by kernel_rfl) ?_
  simp only [List.take_succ_cons, List.take_zero, List.drop_succ_cons, List.drop_zero]
  repeat (go_big_quiet_step ((first | (go_at_call 14; exact quiet_gw (number_c _ _ _)) | (go_at_call 12; exact quiet_gw ((both_c _ _).mono fun _ _ h => ⟨h.1, h.2 ▸ Ext.refl _⟩)) | (go_at_call 13; exact quiet_gw ((exchanged_c _ _ _).mono fun _ _ h => ⟨h.1, h.2 ▸ Ext.refl _⟩)) | (go_at_call 11; exact quiet_gw (spanOf_c _ _ _ _ r1 r2 (by omega) (by omega) _)))))
  refine wpQuiet_nil ?_
  intro g
  go_wp2_with fail
  all_goals
    go_returns
    refine ⟨by first | rfl | (simp [mirrorE, mirrorF, okF, *]; done) | (simp [mirrorE, mirrorF, okF, *]; omega), ?_⟩
    repeat (first | exact Ext.refl _ | with_reducible assumption | refine Ext.alloc ?_ _ | refine Ext.drew ?_ | refine Ext.drewN ?_ _ | refine ext_gw ?_ _ | refine Ext.setCell ?_ (by first | (simp; done) | (simp [Upto.le_true, Upto.le_add]; done) | (simp; omega)) _)



end Go.Proofs.Ytabdjpfijifhmab
