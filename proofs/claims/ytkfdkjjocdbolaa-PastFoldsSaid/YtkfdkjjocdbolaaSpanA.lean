/-
  A helper of ours: no claim of its own. What the functions of layer 2 (span), and those of the document's own answer, return: one contract each.
-/
import Derived.Test.YtkfdkjjocdbolaaRows
import Derived.Test.YtkfdkjjocdbolaaGw
import Derived.Test.YtkfdkjjocdbolaaFloats
import Derived.Handy
set_option linter.unusedVariables false
set_option linter.unusedSimpArgs false
namespace Go.Proofs.Ytkfdkjjocdbolaa
open Go.RowKit
attribute [local go_sem] GW.cell GW.frozen In.eq_true In.le_true In.ne In.ne' In.ne_add In.ne_add' In.lt_add Upto.le_true Upto.le_add Upto.lt_add


def isTickB (t : Int) : Bool := decide (0 ≤ t) && decide (t ≤ 1125899906842624)
def smayB (a b : Int) : Bool := isTickB a && isTickB b && decide (a < b)
/-- A number, if there is one. -/
def sokF (ok : Bool) (a : Int) : Int := if ok then a else 0
def mkE (a b : Int) : Int := if isTickB a && isTickB b then (if a < b then 0 else 14) else 13
def hasB (a b t : Int) : Bool := smayB a b && decide (a ≤ t) && decide (t < b)

theorem mayB_lt {a b : Int} (h : smayB a b = true) : a < b ∧ 0 ≤ a ∧ a ≤ 1125899906842624 ∧ 0 ≤ b ∧ b ≤ 1125899906842624 := by
  simp [smayB, isTickB] at h; omega
theorem mayB_mk {a b : Int} (h : a < b ∧ 0 ≤ a ∧ a ≤ 1125899906842624 ∧ 0 ≤ b ∧ b ≤ 1125899906842624) : smayB a b = true := by
  simp [smayB, isTickB]; omega

theorem isTick_c (t : Int) (w : World) : Calls Try.prog 88 #[.int .i64 t] w fun e w' => e = .returned (.bool (isTickB t)) ∧ w = w' := by
  by_cases h0 : 0 ≤ t <;> by_cases h1 : t ≤ 1125899906842624
  all_goals
    go_enter Try.func88, Try.ntmps88
    go_wp2_with fail
    all_goals
      go_returns
      refine ⟨by first | rfl | (simp [isTickB, h0, h1]; done) | (simp [isTickB, h0, h1]; omega), ?_⟩
      exact rfl


theorem smay_c (a b : Int) (w : World) : Calls Try.prog 77 #[.agg #[.int .i64 (a), .int .i64 (b)]] w fun e w' => e = .returned (.bool (smayB a b)) ∧ Ext w w' := by
  cases h0 : isTickB a <;> cases h1 : isTickB b <;> by_cases h2 : a < b
  all_goals
    go_enter Try.func77, Try.ntmps77
    go_wp2_with (go_at_call 88; refine (isTick_c _ _).mono ?_; rintro e w' ⟨rfl, rfl⟩)
    all_goals
      go_returns
      refine ⟨by first | rfl | (simp [smayB, h0, h1, h2]; done) | (simp [smayB, h0, h1, h2]; omega), ?_⟩
      repeat (first | exact Ext.refl _ | with_reducible assumption | refine Ext.alloc ?_ _ | refine Ext.drew ?_ | refine Ext.drewN ?_ _ | refine ext_gw ?_ _ | refine Ext.setCell ?_ (by first | (simp; done) | (simp [Upto.le_true, Upto.le_add]; done) | (simp; omega)) _)







theorem unless_c (a b : Int) (w : World) : Calls Try.prog 78 #[.int .i64 a, .int .i64 b] w fun e w' => e = .returned (.tuple #[.agg #[.int .i64 (sokF (decide (a < b)) (a)), .int .i64 (sokF (decide (a < b)) (b))], .bool (decide (a < b))]) ∧ Ext w w' := by
  by_cases h : a < b
  all_goals
    go_enter Try.func78, Try.ntmps78
    go_wp2_with fail
    all_goals
      go_returns
      refine ⟨by first | rfl | (simp [sokF, h]; done) | (simp [sokF, h]; omega), ?_⟩
      repeat (first | exact Ext.refl _ | with_reducible assumption | refine Ext.alloc ?_ _ | refine Ext.drew ?_ | refine Ext.drewN ?_ _ | refine ext_gw ?_ _ | refine Ext.setCell ?_ (by first | (simp; done) | (simp [Upto.le_true, Upto.le_add]; done) | (simp; omega)) _)

def meetB (a b c d : Int) : Bool := smayB a b && smayB c d && decide (max a c < min b d)
def aheadB (a b t : Int) : Bool := smayB a b && decide (a < t)
def restB (a b t : Int) : Bool := smayB a b && decide (t < b)


theorem ahead_c (a b t : Int) (w : World) : Calls Try.prog 59 #[.agg #[.int .i64 (a), .int .i64 (b)], .int .i64 t] w fun e w' => e = .returned (.tuple #[.agg #[.int .i64 (sokF (aheadB a b t) (a)), .int .i64 (sokF (aheadB a b t) (min b t))], .bool (aheadB a b t)]) ∧ Ext w w' := by
  cases h0 : smayB a b
  · go_enter Try.func59, Try.ntmps59
    go_wp2_with (first | (go_at_call 77; (first | refine seq_gw' (smay_c _ _ _) ?_ | refine seq_gw (smay_c _ _ _) ?_); intro g) | (go_at_call 78; (first | refine seq_gw' (unless_c _ _ _) ?_ | refine seq_gw (unless_c _ _ _) ?_); intro g))
    all_goals
      go_returns
      refine ⟨by first | rfl | (simp [aheadB, sokF, *]; done) | (simp [aheadB, sokF, *]; omega), ?_⟩
      repeat (first | exact Ext.refl _ | with_reducible assumption | refine Ext.alloc ?_ _ | refine Ext.drew ?_ | refine Ext.drewN ?_ _ | refine ext_gw ?_ _ | refine Ext.setCell ?_ (by first | (simp; done) | (simp [Upto.le_true, Upto.le_add]; done) | (simp; omega)) _)
  obtain ⟨l1, l2, l3, l4, l5⟩ := mayB_lt h0
  by_cases h1 : a < t
  · go_enter Try.func59, Try.ntmps59
    go_wp2_with (first | (go_at_call 77; (first | refine seq_gw' (smay_c _ _ _) ?_ | refine seq_gw (smay_c _ _ _) ?_); intro g) | (go_at_call 78; (first | refine seq_gw' (unless_c _ _ _) ?_ | refine seq_gw (unless_c _ _ _) ?_); intro g))
    all_goals
      go_returns
      refine ⟨by first | rfl | (simp [aheadB, sokF, *]; done) | (simp [aheadB, sokF, *]; omega), ?_⟩
      repeat (first | exact Ext.refl _ | with_reducible assumption | refine Ext.alloc ?_ _ | refine Ext.drew ?_ | refine Ext.drewN ?_ _ | refine ext_gw ?_ _ | refine Ext.setCell ?_ (by first | (simp; done) | (simp [Upto.le_true, Upto.le_add]; done) | (simp; omega)) _)
  go_enter Try.func59, Try.ntmps59
  go_wp2_with (first | (go_at_call 77; (first | refine seq_gw' (smay_c _ _ _) ?_ | refine seq_gw (smay_c _ _ _) ?_); intro g) | (go_at_call 78; (first | refine seq_gw' (unless_c _ _ _) ?_ | refine seq_gw (unless_c _ _ _) ?_); intro g))
  all_goals
    go_returns
    refine ⟨by first | rfl | (simp [aheadB, sokF, *]; done) | (simp [aheadB, sokF, *]; omega), ?_⟩
    repeat (first | exact Ext.refl _ | with_reducible assumption | refine Ext.alloc ?_ _ | refine Ext.drew ?_ | refine Ext.drewN ?_ _ | refine ext_gw ?_ _ | refine Ext.setCell ?_ (by first | (simp; done) | (simp [Upto.le_true, Upto.le_add]; done) | (simp; omega)) _)




end Go.Proofs.Ytkfdkjjocdbolaa
