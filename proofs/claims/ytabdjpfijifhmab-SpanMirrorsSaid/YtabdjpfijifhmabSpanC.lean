/-
  A helper of ours: no claim of its own. Relate of layer 2 (span), that of the document's own answer, and what must be whatever is asked.
-/
import Derived.Test.YtabdjpfijifhmabSpanB
set_option linter.unusedVariables false
set_option linter.unusedSimpArgs false
namespace Go.Proofs.Ytabdjpfijifhmab
open Go.RowKit
attribute [local go_sem] GW.cell GW.frozen In.eq_true In.le_true In.ne In.ne' In.ne_add In.ne_add' In.lt_add Upto.le_true Upto.le_add Upto.lt_add
open Floats

def cmpI (a b : Int) : Int := if a < b then -1 else if a > b then 1 else 0
/-- How two spans stand. -/
def relV (a b c d : Int) : Int :=
  if mayB a b && mayB c d then (if b < c then 1 else if b = c then 2 else if a = d then 12 else if a > d then 13 else 7 + 3 * cmpI a c + cmpI b d) else 0
def relE (a b c d : Int) : Int := if mayB a b && mayB c d then 0 else 14
theorem cmpI_in (a b : Int) : -1 ≤ cmpI a b ∧ cmpI a b ≤ 1 := by unfold cmpI; repeat' split <;> omega
theorem cmp_c (a b : Int) (w : World) : Calls Try.prog 17 #[.int .i64 a, .int .i64 b] w fun e w' => e = .returned (.int .i64 (cmpI a b)) ∧ w = w' := by
  by_cases h1 : a < b <;> by_cases h2 : a > b
  all_goals
    go_enter Try.func17, Try.ntmps17
    go_wp2
    all_goals
      go_returns
      refine ⟨by first | rfl | (simp [cmpI, h1, h2]; done) | (simp [cmpI, h1, h2]; omega), ?_⟩
      exact rfl

set_option maxHeartbeats 2000000 in
theorem relate_c (a b c d : Int) (w : World) : Calls Try.prog 7 #[.agg #[.int .i64 (a), .int .i64 (b)], .agg #[.int .i64 (c), .int .i64 (d)]] w fun e w' => e = .returned (.tuple #[.int .i64 (relV a b c d), .int .i64 (relE a b c d)]) ∧ Ext w w' := by
  cases h0 : mayB a b
  · go_enter Try.func7, Try.ntmps7
    go_wp2_with (go_at_call 10; (first | refine seq_gw' (may_c _ _ _) ?_ | refine seq_gw (may_c _ _ _) ?_); intro g)
    all_goals
      go_returns
      refine ⟨by first | rfl | (simp [relV, relE, *]; done) | (simp [relV, relE, *]; omega), ?_⟩
      repeat (first | exact Ext.refl _ | with_reducible assumption | refine Ext.alloc ?_ _ | refine Ext.drew ?_ | refine Ext.drewN ?_ _ | refine ext_gw ?_ _ | refine Ext.setCell ?_ (by first | (simp; done) | (simp [Upto.le_true, Upto.le_add]; done) | (simp; omega)) _)

  obtain ⟨l1, l2, l3, l4, l5⟩ := mayB_lt h0
  cases h1 : mayB c d
  · go_enter Try.func7, Try.ntmps7
    go_wp2_with (go_at_call 10; (first | refine seq_gw' (may_c _ _ _) ?_ | refine seq_gw (may_c _ _ _) ?_); intro g)
    all_goals
      go_returns
      refine ⟨by first | rfl | (simp [relV, relE, *]; done) | (simp [relV, relE, *]; omega), ?_⟩
      repeat (first | exact Ext.refl _ | with_reducible assumption | refine Ext.alloc ?_ _ | refine Ext.drew ?_ | refine Ext.drewN ?_ _ | refine ext_gw ?_ _ | refine Ext.setCell ?_ (by first | (simp; done) | (simp [Upto.le_true, Upto.le_add]; done) | (simp; omega)) _)

  obtain ⟨m1, m2, m3, m4, m5⟩ := mayB_lt h1
  by_cases h2 : b < c
  · go_enter Try.func7, Try.ntmps7
    go_wp2_with (go_at_call 10; (first | refine seq_gw' (may_c _ _ _) ?_ | refine seq_gw (may_c _ _ _) ?_); intro g)
    all_goals
      go_returns
      refine ⟨by first | rfl | (simp [relV, relE, *]; done) | (simp [relV, relE, *]; omega), ?_⟩
      repeat (first | exact Ext.refl _ | with_reducible assumption | refine Ext.alloc ?_ _ | refine Ext.drew ?_ | refine Ext.drewN ?_ _ | refine ext_gw ?_ _ | refine Ext.setCell ?_ (by first | (simp; done) | (simp [Upto.le_true, Upto.le_add]; done) | (simp; omega)) _)

  have k2 : ¬ b < c := h2
  by_cases h3 : b = c
  · have e3 : (b == c) = true := beq_iff_eq.2 h3
    subst h3
    go_enter Try.func7, Try.ntmps7
    go_wp2_with (go_at_call 10; (first | refine seq_gw' (may_c _ _ _) ?_ | refine seq_gw (may_c _ _ _) ?_); intro g)
    all_goals
      go_returns
      refine ⟨by first | rfl | (simp [relV, relE, *]; done) | (simp [relV, relE, *]; omega), ?_⟩
      repeat (first | exact Ext.refl _ | with_reducible assumption | refine Ext.alloc ?_ _ | refine Ext.drew ?_ | refine Ext.drewN ?_ _ | refine ext_gw ?_ _ | refine Ext.setCell ?_ (by first | (simp; done) | (simp [Upto.le_true, Upto.le_add]; done) | (simp; omega)) _)

  have e3 : (b == c) = false := beq_eq_false_iff_ne.2 h3
  by_cases h4 : a = d
  · have e4 : (a == d) = true := beq_iff_eq.2 h4
    subst h4
    go_enter Try.func7, Try.ntmps7
    go_wp2_with (go_at_call 10; (first | refine seq_gw' (may_c _ _ _) ?_ | refine seq_gw (may_c _ _ _) ?_); intro g)
    all_goals
      go_returns
      refine ⟨by first | rfl | (simp [relV, relE, *]; done) | (simp [relV, relE, *]; omega), ?_⟩
      repeat (first | exact Ext.refl _ | with_reducible assumption | refine Ext.alloc ?_ _ | refine Ext.drew ?_ | refine Ext.drewN ?_ _ | refine ext_gw ?_ _ | refine Ext.setCell ?_ (by first | (simp; done) | (simp [Upto.le_true, Upto.le_add]; done) | (simp; omega)) _)

  have e4 : (a == d) = false := beq_eq_false_iff_ne.2 h4
  by_cases h5 : a > d
  · go_enter Try.func7, Try.ntmps7
    go_wp2_with (go_at_call 10; (first | refine seq_gw' (may_c _ _ _) ?_ | refine seq_gw (may_c _ _ _) ?_); intro g)
    all_goals
      go_returns
      refine ⟨by first | rfl | (simp [relV, relE, *]; done) | (simp [relV, relE, *]; omega), ?_⟩
      repeat (first | exact Ext.refl _ | with_reducible assumption | refine Ext.alloc ?_ _ | refine Ext.drew ?_ | refine Ext.drewN ?_ _ | refine ext_gw ?_ _ | refine Ext.setCell ?_ (by first | (simp; done) | (simp [Upto.le_true, Upto.le_add]; done) | (simp; omega)) _)

  have c1 := cmpI_in a c
  have c2 := cmpI_in b d
  go_enter Try.func7, Try.ntmps7
  go_wp2_with (go_at_call 10; (first | refine seq_gw' (may_c _ _ _) ?_ | refine seq_gw (may_c _ _ _) ?_); intro g)
  refine wp_region_gw (by kernel_rfl) (by kernel_rfl) ?_
  repeat (go_big_quiet_step ((go_at_call 17; exact quiet_gw ((cmp_c _ _ _).mono fun _ _ h => ⟨h.1, h.2 ▸ Ext.refl _⟩))))
  refine wpQuiet_nil ?_
  intro g
  go_wp2_with fail
  all_goals
    go_returns
    refine ⟨by first | rfl | (simp [relV, relE, *]; done) | (simp [relV, relE, *]; omega), ?_⟩
    repeat (first | exact Ext.refl _ | with_reducible assumption | refine Ext.alloc ?_ _ | refine Ext.drew ?_ | refine Ext.drewN ?_ _ | refine ext_gw ?_ _ | refine Ext.setCell ?_ (by first | (simp; done) | (simp [Upto.le_true, Upto.le_add]; done) | (simp; omega)) _)


theorem rel_rows (a b c d : Int) (h0 : mayB a b = true) (h1 : mayB c d = true) (h2 : ¬ b < c) (h3 : ¬ b = c) (h4 : ¬ a = d) (h5 : ¬ a > d) :
    relV a b c d = (if a > c then 9 else if a = c then 6 else 3) + (if b = d then 1 else if b > d then 2 else 0) := by
  simp only [relV, h0, h1, Bool.and_self, if_true, if_neg h2, if_neg h3, if_neg h4, if_neg h5, cmpI]
  repeat' split
  all_goals omega








end Go.Proofs.Ytabdjpfijifhmab
