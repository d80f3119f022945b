/-
  A helper of ours: no claim of its own. What the functions of layer 2 (span), and those of the document's own answer, return: one contract each.
-/
import Derived.Test.YtabdjpfijifhmabRows
import Derived.Test.YtabdjpfijifhmabGw
import Derived.Test.YtabdjpfijifhmabFloats
import Derived.Handy
set_option linter.unusedVariables false
set_option linter.unusedSimpArgs false
namespace Go.Proofs.Ytabdjpfijifhmab
open Go.RowKit
attribute [local go_sem] GW.cell GW.frozen In.eq_true In.le_true In.ne In.ne' In.ne_add In.ne_add' In.lt_add Upto.le_true Upto.le_add Upto.lt_add


def isTickB (t : Int) : Bool := decide (0 ≤ t) && decide (t ≤ 1125899906842624)
def mayB (a b : Int) : Bool := isTickB a && isTickB b && decide (a < b)
/-- A number, if there is one. -/
def okF (ok : Bool) (a : Int) : Int := if ok then a else 0
def mkE (a b : Int) : Int := if isTickB a && isTickB b then (if a < b then 0 else 14) else 13
def hasB (a b t : Int) : Bool := mayB a b && decide (a ≤ t) && decide (t < b)

theorem mayB_lt {a b : Int} (h : mayB a b = true) : a < b ∧ 0 ≤ a ∧ a ≤ 1125899906842624 ∧ 0 ≤ b ∧ b ≤ 1125899906842624 := by
  simp [mayB, isTickB] at h; omega
theorem mayB_mk {a b : Int} (h : a < b ∧ 0 ≤ a ∧ a ≤ 1125899906842624 ∧ 0 ≤ b ∧ b ≤ 1125899906842624) : mayB a b = true := by
  simp [mayB, isTickB]; omega

theorem isTick_c (t : Int) (w : World) : Calls Try.prog 19 #[.int .i64 t] w fun e w' => e = .returned (.bool (isTickB t)) ∧ w = w' := by
  by_cases h0 : 0 ≤ t <;> by_cases h1 : t ≤ 1125899906842624
  all_goals
    go_enter Try.func19, Try.ntmps19
    go_wp2_with fail
    all_goals
      go_returns
      refine ⟨by first | rfl | (simp [isTickB, h0, h1]; done) | (simp [isTickB, h0, h1]; omega), ?_⟩
      exact rfl


theorem may_c (a b : Int) (w : World) : Calls Try.prog 10 #[.agg #[.int .i64 (a), .int .i64 (b)]] w fun e w' => e = .returned (.bool (mayB a b)) ∧ Ext w w' := by
  cases h0 : isTickB a <;> cases h1 : isTickB b <;> by_cases h2 : a < b
  all_goals
    go_enter Try.func10, Try.ntmps10
    go_wp2_with (go_at_call 19; refine (isTick_c _ _).mono ?_; rintro e w' ⟨rfl, rfl⟩)
    all_goals
      go_returns
      refine ⟨by first | rfl | (simp [mayB, h0, h1, h2]; done) | (simp [mayB, h0, h1, h2]; omega), ?_⟩
      repeat (first | exact Ext.refl _ | with_reducible assumption | refine Ext.alloc ?_ _ | refine Ext.drew ?_ | refine Ext.drewN ?_ _ | refine ext_gw ?_ _ | refine Ext.setCell ?_ (by first | (simp; done) | (simp [Upto.le_true, Upto.le_add]; done) | (simp; omega)) _)


theorem make_c (a b : Int) (w : World) : Calls Try.prog 15 #[.int .i64 a, .int .i64 b] w fun e w' => e = .returned (.tuple #[.agg #[.int .i64 (okF (mayB a b) a), .int .i64 (okF (mayB a b) b)], .int .i64 (mkE a b)]) ∧ Ext w w' := by
  cases h0 : isTickB a <;> cases h1 : isTickB b <;> by_cases h2 : a < b
  all_goals
    go_enter Try.func15, Try.ntmps15
    go_wp2_with (go_at_call 19; refine (isTick_c _ _).mono ?_; rintro e w' ⟨rfl, rfl⟩)
    all_goals
      go_returns
      refine ⟨by first | rfl | (simp [okF, mkE, mayB, h0, h1, h2]; done) | (simp [okF, mkE, mayB, h0, h1, h2]; omega), ?_⟩
      repeat (first | exact Ext.refl _ | with_reducible assumption | refine Ext.alloc ?_ _ | refine Ext.drew ?_ | refine Ext.drewN ?_ _ | refine ext_gw ?_ _ | refine Ext.setCell ?_ (by first | (simp; done) | (simp [Upto.le_true, Upto.le_add]; done) | (simp; omega)) _)




theorem length_c (a b : Int) (w : World) : Calls Try.prog 16 #[.agg #[.int .i64 (a), .int .i64 (b)]] w fun e w' => e = .returned (.int .i64 (okF (mayB a b) (b - a))) ∧ Ext w w' := by
  cases h0 : mayB a b
  case' true => obtain ⟨l1, l2, l3, l4, l5⟩ := mayB_lt h0
  all_goals
    go_enter Try.func16, Try.ntmps16
    go_wp2_with (go_at_call 10; (first | refine seq_gw' (may_c _ _ _) ?_ | refine seq_gw (may_c _ _ _) ?_); intro g)
    all_goals
      go_returns
      refine ⟨by first | rfl | (simp [okF, h0]; done) | (simp [okF, h0]; omega), ?_⟩
      repeat (first | exact Ext.refl _ | with_reducible assumption | refine Ext.alloc ?_ _ | refine Ext.drew ?_ | refine Ext.drewN ?_ _ | refine ext_gw ?_ _ | refine Ext.setCell ?_ (by first | (simp; done) | (simp [Upto.le_true, Upto.le_add]; done) | (simp; omega)) _)

theorem unless_c (a b : Int) (w : World) : Calls Try.prog 18 #[.int .i64 a, .int .i64 b] w fun e w' => e = .returned (.tuple #[.agg #[.int .i64 (okF (decide (a < b)) (a)), .int .i64 (okF (decide (a < b)) (b))], .bool (decide (a < b))]) ∧ Ext w w' := by
  by_cases h : a < b
  all_goals
    go_enter Try.func18, Try.ntmps18
    go_wp2_with fail
    all_goals
      go_returns
      refine ⟨by first | rfl | (simp [okF, h]; done) | (simp [okF, h]; omega), ?_⟩
      repeat (first | exact Ext.refl _ | with_reducible assumption | refine Ext.alloc ?_ _ | refine Ext.drew ?_ | refine Ext.drewN ?_ _ | refine ext_gw ?_ _ | refine Ext.setCell ?_ (by first | (simp; done) | (simp [Upto.le_true, Upto.le_add]; done) | (simp; omega)) _)

def meetB (a b c d : Int) : Bool := mayB a b && mayB c d && decide (max a c < min b d)
def aheadB (a b t : Int) : Bool := mayB a b && decide (a < t)
def restB (a b t : Int) : Bool := mayB a b && decide (t < b)
set_option maxHeartbeats 1000000 in
theorem meet_c (a b c d : Int) (w : World) : Calls Try.prog 8 #[.agg #[.int .i64 (a), .int .i64 (b)], .agg #[.int .i64 (c), .int .i64 (d)]] w fun e w' => e = .returned (.tuple #[.agg #[.int .i64 (okF (meetB a b c d) (max a c)), .int .i64 (okF (meetB a b c d) (min b d))], .bool (meetB a b c d)]) ∧ Ext w w' := by
  cases h0 : mayB a b
  · go_enter Try.func8, Try.ntmps8
    go_wp2_with (first | (go_at_call 10; (first | refine seq_gw' (may_c _ _ _) ?_ | refine seq_gw (may_c _ _ _) ?_); intro g) | (go_at_call 18; (first | refine seq_gw' (unless_c _ _ _) ?_ | refine seq_gw (unless_c _ _ _) ?_); intro g))
    all_goals
      go_returns
      refine ⟨by first | rfl | (simp [meetB, okF, *]; done) | (simp [meetB, okF, *]; omega), ?_⟩
      repeat (first | exact Ext.refl _ | with_reducible assumption | refine Ext.alloc ?_ _ | refine Ext.drew ?_ | refine Ext.drewN ?_ _ | refine ext_gw ?_ _ | refine Ext.setCell ?_ (by first | (simp; done) | (simp [Upto.le_true, Upto.le_add]; done) | (simp; omega)) _)
  obtain ⟨l1, l2, l3, l4, l5⟩ := mayB_lt h0
  cases h1 : mayB c d
  · go_enter Try.func8, Try.ntmps8
    go_wp2_with (first | (go_at_call 10; (first | refine seq_gw' (may_c _ _ _) ?_ | refine seq_gw (may_c _ _ _) ?_); intro g) | (go_at_call 18; (first | refine seq_gw' (unless_c _ _ _) ?_ | refine seq_gw (unless_c _ _ _) ?_); intro g))
    all_goals
      go_returns
      refine ⟨by first | rfl | (simp [meetB, okF, *]; done) | (simp [meetB, okF, *]; omega), ?_⟩
      repeat (first | exact Ext.refl _ | with_reducible assumption | refine Ext.alloc ?_ _ | refine Ext.drew ?_ | refine Ext.drewN ?_ _ | refine ext_gw ?_ _ | refine Ext.setCell ?_ (by first | (simp; done) | (simp [Upto.le_true, Upto.le_add]; done) | (simp; omega)) _)
  obtain ⟨m1, m2, m3, m4, m5⟩ := mayB_lt h1
  by_cases h2 : max a c < min b d
  · go_enter Try.func8, Try.ntmps8
    go_wp2_with (first | (go_at_call 10; (first | refine seq_gw' (may_c _ _ _) ?_ | refine seq_gw (may_c _ _ _) ?_); intro g) | (go_at_call 18; (first | refine seq_gw' (unless_c _ _ _) ?_ | refine seq_gw (unless_c _ _ _) ?_); intro g))
    all_goals
      go_returns
      refine ⟨by first | rfl | (simp [meetB, okF, *]; done) | (simp [meetB, okF, *]; omega), ?_⟩
      repeat (first | exact Ext.refl _ | with_reducible assumption | refine Ext.alloc ?_ _ | refine Ext.drew ?_ | refine Ext.drewN ?_ _ | refine ext_gw ?_ _ | refine Ext.setCell ?_ (by first | (simp; done) | (simp [Upto.le_true, Upto.le_add]; done) | (simp; omega)) _)
  go_enter Try.func8, Try.ntmps8
  go_wp2_with (first | (go_at_call 10; (first | refine seq_gw' (may_c _ _ _) ?_ | refine seq_gw (may_c _ _ _) ?_); intro g) | (go_at_call 18; (first | refine seq_gw' (unless_c _ _ _) ?_ | refine seq_gw (unless_c _ _ _) ?_); intro g))
  all_goals
    go_returns
    refine ⟨by first | rfl | (simp [meetB, okF, *]; done) | (simp [meetB, okF, *]; omega), ?_⟩
    repeat (first | exact Ext.refl _ | with_reducible assumption | refine Ext.alloc ?_ _ | refine Ext.drew ?_ | refine Ext.drewN ?_ _ | refine ext_gw ?_ _ | refine Ext.setCell ?_ (by first | (simp; done) | (simp [Upto.le_true, Upto.le_add]; done) | (simp; omega)) _)






end Go.Proofs.Ytabdjpfijifhmab
