/-
  A helper of ours: no claim of its own. Layer 2 (span): what must be whatever is asked, and small facts.
-/
import Derived.Test.YtabdjpfijifhmabSpanC
set_option linter.unusedVariables false
set_option linter.unusedSimpArgs false
namespace Go.Proofs.Ytabdjpfijifhmab
open Go.RowKit
attribute [local go_sem] GW.cell GW.frozen In.eq_true In.le_true In.ne In.ne' In.ne_add In.ne_add' In.lt_add Upto.le_true Upto.le_add Upto.lt_add


theorem okF_true (a : Int) : okF true a = a := rfl
theorem okF_false (a : Int) : okF false a = 0 := rfl
attribute [local go_sem] okF_true okF_false
theorem mkE_yes {a b : Int} (h : mayB a b = true) : mkE a b = 0 := by
  have h' := h
  simp [mayB] at h'; simp [mkE, h'.1, h'.2]
theorem mkE_no {a b : Int} (h : mayB a b = false) : mkE a b = 13 ∨ mkE a b = 14 := by
  unfold mayB at h; unfold mkE
  cases h1 : isTickB a <;> cases h2 : isTickB b <;> simp_all
theorem relV_range {a b c d : Int} (h : (mayB a b && mayB c d) = true) : 1 ≤ relV a b c d ∧ relV a b c d ≤ 13 := by
  obtain ⟨h1, h2⟩ := Bool.and_eq_true_iff.1 h
  have l1 := mayB_lt h1; have l2 := mayB_lt h2
  simp only [relV, h, if_true, cmpI]
  repeat' split
  all_goals omega
theorem relV_sym (a b c d : Int) (h : (mayB a b && mayB c d) = true) : relV c d a b = 14 - relV a b c d := by
  obtain ⟨h1, h2⟩ := Bool.and_eq_true_iff.1 h
  have l1 := mayB_lt h1; have l2 := mayB_lt h2
  simp only [relV, h1, h2, Bool.and_self, if_true, cmpI]
  repeat' split
  all_goals omega
theorem relV_same {a b c d : Int} (h : (mayB a b && mayB c d) = true) : relV a b c d = 7 ↔ a = c ∧ b = d := by
  obtain ⟨h1, h2⟩ := Bool.and_eq_true_iff.1 h
  have l1 := mayB_lt h1; have l2 := mayB_lt h2
  simp only [relV, h1, h2, Bool.and_self, if_true, cmpI]
  repeat' split
  all_goals omega
set_option maxHeartbeats 1000000 in
theorem live_c (w : World) : Calls Try.prog 6 #[] w fun e w' => e = .returned (.bool true) ∧ Ext w w' := by
  have m1 : mayB 2 5 = true := by decide +kernel
  have m2 : mayB 5 5 = false := by decide +kernel
  have e1 : mkE 2 5 = 0 := by decide +kernel
  have e2 : mkE 5 5 = 14 := by decide +kernel
  have r1 : relV 2 5 5 6 = 2 := by decide +kernel
  have r2 : relE 2 5 5 6 = 0 := by decide +kernel
  go_enter Try.func6, Try.ntmps6
  go_wp2_with (first | (go_at_call 15; (first | refine seq_gw' (make_c _ _ _) ?_ | refine seq_gw (make_c _ _ _) ?_); intro g) | (go_at_call 7; (first | refine seq_gw' (relate_c _ _ _ _ _) ?_ | refine seq_gw (relate_c _ _ _ _ _) ?_); intro g) | (go_at_call 16; (first | refine seq_gw' (length_c _ _ _) ?_ | refine seq_gw (length_c _ _ _) ?_); intro g))
  all_goals
    go_returns
    refine ⟨by first | rfl | (simp []; done) | (simp []; omega), ?_⟩
    repeat (first | exact Ext.refl _ | with_reducible assumption | refine Ext.alloc ?_ _ | refine Ext.drew ?_ | refine Ext.drewN ?_ _ | refine ext_gw ?_ _ | refine Ext.setCell ?_ (by first | (simp; done) | (simp [Upto.le_true, Upto.le_add]; done) | (simp; omega)) _)

end Go.Proofs.Ytabdjpfijifhmab
