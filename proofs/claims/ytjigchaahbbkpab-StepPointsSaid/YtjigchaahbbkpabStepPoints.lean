/-
  Layer 9 (step), 9.2: for every two lists of jumps, and place, the sum has there the sum of both values, and the product their product, where there is room. No condition.
-/
import Derived.Test.YtjigchaahbbkpabStepL
import Derived.Test.YtjigchaahbbkpabStepY1
import Derived.Test.YtjigchaahbbkpabStepY2
import Derived.Test.YtjigchaahbbkpabStepY3
import Derived.Test.YtjigchaahbbkpabArg
import Derived.WalkKit
import Derived.ProofKit
import Derived.OpenShut
import Derived.ShutString
import Derived.ChangeOld
import Derived.Below
import Derived.Lib.SmallJoins
import Derived.SizedLaws
import Derived.Deep.CondSized
import Derived.JoinedCond
set_option linter.unusedVariables false
set_option linter.unusedSimpArgs false
namespace Go.Proofs.Ytjigchaahbbkpab.stepPoints
open Go.ChangeShapes Go.WideShapes Go.ChangeAt Go.RowKit Go.Joins
open Go.ChangeMaps (open_string shut_string)
attribute [local go_sem] GW.cell GW.frozen In.eq_true In.le_true In.ne In.ne' In.ne_add In.ne_add' In.lt_add Upto.le_true Upto.le_add Upto.lt_add
set_option maxHeartbeats 8000000 in
set_option maxRecDepth 100000 in
theorem walk (l m : List Jp) (t : Int) (v u : Value) (w : World) (h : Jw w [] v l) (h2 : Jw w [] u m) : Calls Try.prog 7 #[v, u, .int .i64 t] w fun e w' => e = .returned (.bool true) ∧ Ext w w' := by
  have hX0 := Ext.refl w
  have hm1 := hide (fun w' (hX : Ext w w') => stepMay_c l v w' (Sl.ext h hX))
  have hm2 := hide (fun w' (hX : Ext w w') => stepMay_c m u w' (Sl.ext h2 hX))
  have ht1 := hide (fun w' (hX : Ext w w') => stepAdd_c l m v u w' (Sl.ext h hX) (Sl.ext h2 hX))
  have ht2 := hide (fun w' (hX : Ext w w') => stepMul_c l m v u w' (Sl.ext h hX) (Sl.ext h2 hX))
  have ha1 := hide (fun w' (hX : Ext w w') => stepAt_c l t v w' (Sl.ext h hX))
  have ha2 := hide (fun w' (hX : Ext w w') => stepAt_c m t u w' (Sl.ext h2 hX))
  obtain ⟨A, cap, rfl, -, -, -⟩ := jw_form h
  obtain ⟨A', cap', rfl, -, -, -⟩ := jw_form h2
  cases hl : mayJ l
  · rw [hl] at hm1
    clear h h2 hl
    go_enter Try.func7, Try.ntmps7
    go_wp2_with (first | (go_at_call 13; (first | (with_reducible refine seq_gw' (hm1.out _ (by repeat (first | exact Ext.refl _ | with_reducible assumption | refine Ext.alloc ?_ _ | refine Ext.drew ?_ | refine ext_gw ?_ _))) ?_) | (with_reducible refine seq_gw (hm1.out _ (by repeat (first | exact Ext.refl _ | with_reducible assumption | refine Ext.alloc ?_ _ | refine Ext.drew ?_ | refine ext_gw ?_ _))) ?_) | (with_reducible refine seq_gw' (hm2.out _ (by repeat (first | exact Ext.refl _ | with_reducible assumption | refine Ext.alloc ?_ _ | refine Ext.drew ?_ | refine ext_gw ?_ _))) ?_) | (with_reducible refine seq_gw (hm2.out _ (by repeat (first | exact Ext.refl _ | with_reducible assumption | refine Ext.alloc ?_ _ | refine Ext.drew ?_ | refine ext_gw ?_ _))) ?_)); intro g) | (go_at_call 9; (first | (with_reducible refine seq_gw' (stepLive_c _) ?_) | (with_reducible refine seq_gw (stepLive_c _) ?_)); intro g))
    go_returns
    exact ⟨by first | rfl | simp, (by repeat (first | exact Ext.refl _ | with_reducible assumption | refine Ext.alloc ?_ _ | refine Ext.drew ?_ | refine ext_gw ?_ _))⟩
  · cases hm : mayJ m
    · rw [hl] at hm1
      rw [hm] at hm2
      clear h h2 hl hm
      go_enter Try.func7, Try.ntmps7
      go_wp2_with (first | (go_at_call 13; (first | (with_reducible refine seq_gw' (hm1.out _ (by repeat (first | exact Ext.refl _ | with_reducible assumption | refine Ext.alloc ?_ _ | refine Ext.drew ?_ | refine ext_gw ?_ _))) ?_) | (with_reducible refine seq_gw (hm1.out _ (by repeat (first | exact Ext.refl _ | with_reducible assumption | refine Ext.alloc ?_ _ | refine Ext.drew ?_ | refine ext_gw ?_ _))) ?_) | (with_reducible refine seq_gw' (hm2.out _ (by repeat (first | exact Ext.refl _ | with_reducible assumption | refine Ext.alloc ?_ _ | refine Ext.drew ?_ | refine ext_gw ?_ _))) ?_) | (with_reducible refine seq_gw (hm2.out _ (by repeat (first | exact Ext.refl _ | with_reducible assumption | refine Ext.alloc ?_ _ | refine Ext.drew ?_ | refine ext_gw ?_ _))) ?_)); intro g) | (go_at_call 9; (first | (with_reducible refine seq_gw' (stepLive_c _) ?_) | (with_reducible refine seq_gw (stepLive_c _) ?_)); intro g))
      go_returns
      exact ⟨by first | rfl | simp, (by repeat (first | exact Ext.refl _ | with_reducible assumption | refine Ext.alloc ?_ _ | refine Ext.drew ?_ | refine ext_gw ?_ _))⟩
    · have r1 : twE addO l m = 0 ∨ twE addO l m = 7 := by unfold twE; rw [hl, hm]; simp only [Bool.and_self, if_true]; unfold full; split <;> simp
      have r2 : twE mulO l m = 0 ∨ twE mulO l m = 7 := by unfold twE; rw [hl, hm]; simp only [Bool.and_self, if_true]; unfold full; split <;> simp
      have p1 : twE addO l m = 0 → atV (twR addO l m) t = atV l t + atV m t := fun h => tw_point (op := addO) rfl h t
      have p2 : twE mulO l m = 0 → atV (twR mulO l m) t = atV l t * atV m t := fun h => tw_point (op := mulO) rfl h t
      have hpa : Hid (∀ w' v', Jw w' [] v' (twR addO l m) → Calls Try.prog 15 #[v', .int .i64 t] w' fun e w'' => e = .returned (.int .i64 (atV (twR addO l m) t)) ∧ Ext w' w'') := fun w' v' h => stepAt_c _ t v' w' h
      have hpm : Hid (∀ w' v', Jw w' [] v' (twR mulO l m) → Calls Try.prog 15 #[v', .int .i64 t] w' fun e w'' => e = .returned (.int .i64 (atV (twR mulO l m) t)) ∧ Ext w' w'') := fun w' v' h => stepAt_c _ t v' w' h
      obtain ⟨x1, x2⟩ := (show -1073741824 ≤ atV l t ∧ atV l t ≤ 1073741824 by rw [atV_of hl]; exact mayJ_jv hl t)
      obtain ⟨y1, y2⟩ := (show -1073741824 ≤ atV m t ∧ atV m t ≤ 1073741824 by rw [atV_of hm]; exact mayJ_jv hm t)
      rw [hl] at hm1
      rw [hm] at hm2
      generalize atV l t = x at *
      generalize atV m t = y at *
      generalize twE addO l m = E1 at *
      generalize twE mulO l m = E2 at *
      generalize twR addO l m = R1 at *
      generalize twR mulO l m = R2 at *
      obtain ⟨z1, z2⟩ := mul_small ⟨x1, x2⟩ ⟨y1, y2⟩
      have hw : IntKind.i64.wrap (x * y) = x * y := by
        generalize x * y = z at *
        simp [IntKind.wrap, IntKind.bits, IntKind.signed]; omega
      clear h h2 hl hm
      rcases r1 with rfl | rfl
      · rw [p1 rfl] at hpa
        clear p1
        rcases r2 with rfl | rfl
        · rw [p2 rfl] at hpm
          clear p2
          go_enter Try.func7, Try.ntmps7
          go_wp2_with (first | (go_at_call 13; (first | (with_reducible refine seq_gw' (hm1.out _ (by repeat (first | exact Ext.refl _ | with_reducible assumption | refine Ext.alloc ?_ _ | refine Ext.drew ?_ | refine ext_gw ?_ _))) ?_) | (with_reducible refine seq_gw (hm1.out _ (by repeat (first | exact Ext.refl _ | with_reducible assumption | refine Ext.alloc ?_ _ | refine Ext.drew ?_ | refine ext_gw ?_ _))) ?_) | (with_reducible refine seq_gw' (hm2.out _ (by repeat (first | exact Ext.refl _ | with_reducible assumption | refine Ext.alloc ?_ _ | refine Ext.drew ?_ | refine ext_gw ?_ _))) ?_) | (with_reducible refine seq_gw (hm2.out _ (by repeat (first | exact Ext.refl _ | with_reducible assumption | refine Ext.alloc ?_ _ | refine Ext.drew ?_ | refine ext_gw ?_ _))) ?_)); intro g) | (go_at_call 19; ((with_reducible refine (ht1.out _ (by repeat (first | exact Ext.refl _ | with_reducible assumption | refine Ext.alloc ?_ _ | refine Ext.drew ?_ | refine ext_gw ?_ _))).mono ?_); rintro ee w1 ⟨v1, rfl, o1, x1⟩); have X1 : Ext w w1 := Ext.trans (by repeat (first | exact Ext.refl _ | with_reducible assumption | refine Ext.alloc ?_ _ | refine Ext.drew ?_ | refine ext_gw ?_ _)) x1; have s1 := hide (own_jw (S := []) o1 (by simp)); obtain ⟨A1, c1, rfl⟩ := own_form o1; clear o1) | (go_at_call 21; ((with_reducible refine (ht2.out _ (by repeat (first | exact Ext.refl _ | with_reducible assumption | refine Ext.alloc ?_ _ | refine Ext.drew ?_ | refine ext_gw ?_ _))).mono ?_); rintro ee w2 ⟨v2, rfl, o2, x2⟩); have X2 : Ext w w2 := Ext.trans (by repeat (first | exact Ext.refl _ | with_reducible assumption | refine Ext.alloc ?_ _ | refine Ext.drew ?_ | refine ext_gw ?_ _)) x2; have s2 := hide (own_jw (S := []) o2 (by simp)); obtain ⟨A2, c2, rfl⟩ := own_form o2; clear o2; replace s1 := hide (Sl.ext s1.out x2); clear x1 x2 X1) | (go_at_call 15; (first | (with_reducible refine seq_gw' (ha1.out _ (by repeat (first | exact Ext.refl _ | with_reducible assumption | refine Ext.alloc ?_ _ | refine Ext.drew ?_ | refine ext_gw ?_ _))) ?_) | (with_reducible refine seq_gw (ha1.out _ (by repeat (first | exact Ext.refl _ | with_reducible assumption | refine Ext.alloc ?_ _ | refine Ext.drew ?_ | refine ext_gw ?_ _))) ?_) | (with_reducible refine seq_gw' (ha2.out _ (by repeat (first | exact Ext.refl _ | with_reducible assumption | refine Ext.alloc ?_ _ | refine Ext.drew ?_ | refine ext_gw ?_ _))) ?_) | (with_reducible refine seq_gw (ha2.out _ (by repeat (first | exact Ext.refl _ | with_reducible assumption | refine Ext.alloc ?_ _ | refine Ext.drew ?_ | refine ext_gw ?_ _))) ?_)); intro g) | (go_at_call 15; (first | (with_reducible refine seq_gw' (hpa.out _ _ (Sl.ext s1.out (by repeat (first | exact Ext.refl _ | with_reducible assumption | refine Ext.alloc ?_ _ | refine Ext.drew ?_ | refine ext_gw ?_ _)))) ?_) | (with_reducible refine seq_gw (hpa.out _ _ (Sl.ext s1.out (by repeat (first | exact Ext.refl _ | with_reducible assumption | refine Ext.alloc ?_ _ | refine Ext.drew ?_ | refine ext_gw ?_ _)))) ?_) | (with_reducible refine seq_gw' (hpm.out _ _ (Sl.ext s2.out (by repeat (first | exact Ext.refl _ | with_reducible assumption | refine Ext.alloc ?_ _ | refine Ext.drew ?_ | refine ext_gw ?_ _)))) ?_) | (with_reducible refine seq_gw (hpm.out _ _ (Sl.ext s2.out (by repeat (first | exact Ext.refl _ | with_reducible assumption | refine Ext.alloc ?_ _ | refine Ext.drew ?_ | refine ext_gw ?_ _)))) ?_)); intro g) | (go_at_call 9; (first | (with_reducible refine seq_gw' (stepLive_c _) ?_) | (with_reducible refine seq_gw (stepLive_c _) ?_)); intro g))
          go_returns
          exact ⟨by first | rfl | simp, (by repeat (first | exact Ext.refl _ | with_reducible assumption | refine Ext.alloc ?_ _ | refine Ext.drew ?_ | refine ext_gw ?_ _))⟩
        · clear p2
          go_enter Try.func7, Try.ntmps7
          go_wp2_with (first | (go_at_call 13; (first | (with_reducible refine seq_gw' (hm1.out _ (by repeat (first | exact Ext.refl _ | with_reducible assumption | refine Ext.alloc ?_ _ | refine Ext.drew ?_ | refine ext_gw ?_ _))) ?_) | (with_reducible refine seq_gw (hm1.out _ (by repeat (first | exact Ext.refl _ | with_reducible assumption | refine Ext.alloc ?_ _ | refine Ext.drew ?_ | refine ext_gw ?_ _))) ?_) | (with_reducible refine seq_gw' (hm2.out _ (by repeat (first | exact Ext.refl _ | with_reducible assumption | refine Ext.alloc ?_ _ | refine Ext.drew ?_ | refine ext_gw ?_ _))) ?_) | (with_reducible refine seq_gw (hm2.out _ (by repeat (first | exact Ext.refl _ | with_reducible assumption | refine Ext.alloc ?_ _ | refine Ext.drew ?_ | refine ext_gw ?_ _))) ?_)); intro g) | (go_at_call 19; ((with_reducible refine (ht1.out _ (by repeat (first | exact Ext.refl _ | with_reducible assumption | refine Ext.alloc ?_ _ | refine Ext.drew ?_ | refine ext_gw ?_ _))).mono ?_); rintro ee w1 ⟨v1, rfl, o1, x1⟩); have X1 : Ext w w1 := Ext.trans (by repeat (first | exact Ext.refl _ | with_reducible assumption | refine Ext.alloc ?_ _ | refine Ext.drew ?_ | refine ext_gw ?_ _)) x1; have s1 := hide (own_jw (S := []) o1 (by simp)); obtain ⟨A1, c1, rfl⟩ := own_form o1; clear o1) | (go_at_call 21; ((with_reducible refine (ht2.out _ (by repeat (first | exact Ext.refl _ | with_reducible assumption | refine Ext.alloc ?_ _ | refine Ext.drew ?_ | refine ext_gw ?_ _))).mono ?_); rintro ee w2 ⟨v2, rfl, o2, x2⟩); have X2 : Ext w w2 := Ext.trans (by repeat (first | exact Ext.refl _ | with_reducible assumption | refine Ext.alloc ?_ _ | refine Ext.drew ?_ | refine ext_gw ?_ _)) x2; have s2 := hide (own_jw (S := []) o2 (by simp)); obtain ⟨A2, c2, rfl⟩ := own_form o2; clear o2; replace s1 := hide (Sl.ext s1.out x2); clear x1 x2 X1) | (go_at_call 15; (first | (with_reducible refine seq_gw' (ha1.out _ (by repeat (first | exact Ext.refl _ | with_reducible assumption | refine Ext.alloc ?_ _ | refine Ext.drew ?_ | refine ext_gw ?_ _))) ?_) | (with_reducible refine seq_gw (ha1.out _ (by repeat (first | exact Ext.refl _ | with_reducible assumption | refine Ext.alloc ?_ _ | refine Ext.drew ?_ | refine ext_gw ?_ _))) ?_) | (with_reducible refine seq_gw' (ha2.out _ (by repeat (first | exact Ext.refl _ | with_reducible assumption | refine Ext.alloc ?_ _ | refine Ext.drew ?_ | refine ext_gw ?_ _))) ?_) | (with_reducible refine seq_gw (ha2.out _ (by repeat (first | exact Ext.refl _ | with_reducible assumption | refine Ext.alloc ?_ _ | refine Ext.drew ?_ | refine ext_gw ?_ _))) ?_)); intro g) | (go_at_call 15; (first | (with_reducible refine seq_gw' (hpa.out _ _ (Sl.ext s1.out (by repeat (first | exact Ext.refl _ | with_reducible assumption | refine Ext.alloc ?_ _ | refine Ext.drew ?_ | refine ext_gw ?_ _)))) ?_) | (with_reducible refine seq_gw (hpa.out _ _ (Sl.ext s1.out (by repeat (first | exact Ext.refl _ | with_reducible assumption | refine Ext.alloc ?_ _ | refine Ext.drew ?_ | refine ext_gw ?_ _)))) ?_) | (with_reducible refine seq_gw' (hpm.out _ _ (Sl.ext s2.out (by repeat (first | exact Ext.refl _ | with_reducible assumption | refine Ext.alloc ?_ _ | refine Ext.drew ?_ | refine ext_gw ?_ _)))) ?_) | (with_reducible refine seq_gw (hpm.out _ _ (Sl.ext s2.out (by repeat (first | exact Ext.refl _ | with_reducible assumption | refine Ext.alloc ?_ _ | refine Ext.drew ?_ | refine ext_gw ?_ _)))) ?_)); intro g) | (go_at_call 9; (first | (with_reducible refine seq_gw' (stepLive_c _) ?_) | (with_reducible refine seq_gw (stepLive_c _) ?_)); intro g))
          go_returns
          exact ⟨by first | rfl | simp, (by repeat (first | exact Ext.refl _ | with_reducible assumption | refine Ext.alloc ?_ _ | refine Ext.drew ?_ | refine ext_gw ?_ _))⟩
      · clear p1
        rcases r2 with rfl | rfl
        · rw [p2 rfl] at hpm
          clear p2
          go_enter Try.func7, Try.ntmps7
          go_wp2_with (first | (go_at_call 13; (first | (with_reducible refine seq_gw' (hm1.out _ (by repeat (first | exact Ext.refl _ | with_reducible assumption | refine Ext.alloc ?_ _ | refine Ext.drew ?_ | refine ext_gw ?_ _))) ?_) | (with_reducible refine seq_gw (hm1.out _ (by repeat (first | exact Ext.refl _ | with_reducible assumption | refine Ext.alloc ?_ _ | refine Ext.drew ?_ | refine ext_gw ?_ _))) ?_) | (with_reducible refine seq_gw' (hm2.out _ (by repeat (first | exact Ext.refl _ | with_reducible assumption | refine Ext.alloc ?_ _ | refine Ext.drew ?_ | refine ext_gw ?_ _))) ?_) | (with_reducible refine seq_gw (hm2.out _ (by repeat (first | exact Ext.refl _ | with_reducible assumption | refine Ext.alloc ?_ _ | refine Ext.drew ?_ | refine ext_gw ?_ _))) ?_)); intro g) | (go_at_call 19; ((with_reducible refine (ht1.out _ (by repeat (first | exact Ext.refl _ | with_reducible assumption | refine Ext.alloc ?_ _ | refine Ext.drew ?_ | refine ext_gw ?_ _))).mono ?_); rintro ee w1 ⟨v1, rfl, o1, x1⟩); have X1 : Ext w w1 := Ext.trans (by repeat (first | exact Ext.refl _ | with_reducible assumption | refine Ext.alloc ?_ _ | refine Ext.drew ?_ | refine ext_gw ?_ _)) x1; have s1 := hide (own_jw (S := []) o1 (by simp)); obtain ⟨A1, c1, rfl⟩ := own_form o1; clear o1) | (go_at_call 21; ((with_reducible refine (ht2.out _ (by repeat (first | exact Ext.refl _ | with_reducible assumption | refine Ext.alloc ?_ _ | refine Ext.drew ?_ | refine ext_gw ?_ _))).mono ?_); rintro ee w2 ⟨v2, rfl, o2, x2⟩); have X2 : Ext w w2 := Ext.trans (by repeat (first | exact Ext.refl _ | with_reducible assumption | refine Ext.alloc ?_ _ | refine Ext.drew ?_ | refine ext_gw ?_ _)) x2; have s2 := hide (own_jw (S := []) o2 (by simp)); obtain ⟨A2, c2, rfl⟩ := own_form o2; clear o2; replace s1 := hide (Sl.ext s1.out x2); clear x1 x2 X1) | (go_at_call 15; (first | (with_reducible refine seq_gw' (ha1.out _ (by repeat (first | exact Ext.refl _ | with_reducible assumption | refine Ext.alloc ?_ _ | refine Ext.drew ?_ | refine ext_gw ?_ _))) ?_) | (with_reducible refine seq_gw (ha1.out _ (by repeat (first | exact Ext.refl _ | with_reducible assumption | refine Ext.alloc ?_ _ | refine Ext.drew ?_ | refine ext_gw ?_ _))) ?_) | (with_reducible refine seq_gw' (ha2.out _ (by repeat (first | exact Ext.refl _ | with_reducible assumption | refine Ext.alloc ?_ _ | refine Ext.drew ?_ | refine ext_gw ?_ _))) ?_) | (with_reducible refine seq_gw (ha2.out _ (by repeat (first | exact Ext.refl _ | with_reducible assumption | refine Ext.alloc ?_ _ | refine Ext.drew ?_ | refine ext_gw ?_ _))) ?_)); intro g) | (go_at_call 15; (first | (with_reducible refine seq_gw' (hpa.out _ _ (Sl.ext s1.out (by repeat (first | exact Ext.refl _ | with_reducible assumption | refine Ext.alloc ?_ _ | refine Ext.drew ?_ | refine ext_gw ?_ _)))) ?_) | (with_reducible refine seq_gw (hpa.out _ _ (Sl.ext s1.out (by repeat (first | exact Ext.refl _ | with_reducible assumption | refine Ext.alloc ?_ _ | refine Ext.drew ?_ | refine ext_gw ?_ _)))) ?_) | (with_reducible refine seq_gw' (hpm.out _ _ (Sl.ext s2.out (by repeat (first | exact Ext.refl _ | with_reducible assumption | refine Ext.alloc ?_ _ | refine Ext.drew ?_ | refine ext_gw ?_ _)))) ?_) | (with_reducible refine seq_gw (hpm.out _ _ (Sl.ext s2.out (by repeat (first | exact Ext.refl _ | with_reducible assumption | refine Ext.alloc ?_ _ | refine Ext.drew ?_ | refine ext_gw ?_ _)))) ?_)); intro g) | (go_at_call 9; (first | (with_reducible refine seq_gw' (stepLive_c _) ?_) | (with_reducible refine seq_gw (stepLive_c _) ?_)); intro g))
          go_returns
          exact ⟨by first | rfl | simp, (by repeat (first | exact Ext.refl _ | with_reducible assumption | refine Ext.alloc ?_ _ | refine Ext.drew ?_ | refine ext_gw ?_ _))⟩
        · clear p2
          go_enter Try.func7, Try.ntmps7
          go_wp2_with (first | (go_at_call 13; (first | (with_reducible refine seq_gw' (hm1.out _ (by repeat (first | exact Ext.refl _ | with_reducible assumption | refine Ext.alloc ?_ _ | refine Ext.drew ?_ | refine ext_gw ?_ _))) ?_) | (with_reducible refine seq_gw (hm1.out _ (by repeat (first | exact Ext.refl _ | with_reducible assumption | refine Ext.alloc ?_ _ | refine Ext.drew ?_ | refine ext_gw ?_ _))) ?_) | (with_reducible refine seq_gw' (hm2.out _ (by repeat (first | exact Ext.refl _ | with_reducible assumption | refine Ext.alloc ?_ _ | refine Ext.drew ?_ | refine ext_gw ?_ _))) ?_) | (with_reducible refine seq_gw (hm2.out _ (by repeat (first | exact Ext.refl _ | with_reducible assumption | refine Ext.alloc ?_ _ | refine Ext.drew ?_ | refine ext_gw ?_ _))) ?_)); intro g) | (go_at_call 19; ((with_reducible refine (ht1.out _ (by repeat (first | exact Ext.refl _ | with_reducible assumption | refine Ext.alloc ?_ _ | refine Ext.drew ?_ | refine ext_gw ?_ _))).mono ?_); rintro ee w1 ⟨v1, rfl, o1, x1⟩); have X1 : Ext w w1 := Ext.trans (by repeat (first | exact Ext.refl _ | with_reducible assumption | refine Ext.alloc ?_ _ | refine Ext.drew ?_ | refine ext_gw ?_ _)) x1; have s1 := hide (own_jw (S := []) o1 (by simp)); obtain ⟨A1, c1, rfl⟩ := own_form o1; clear o1) | (go_at_call 21; ((with_reducible refine (ht2.out _ (by repeat (first | exact Ext.refl _ | with_reducible assumption | refine Ext.alloc ?_ _ | refine Ext.drew ?_ | refine ext_gw ?_ _))).mono ?_); rintro ee w2 ⟨v2, rfl, o2, x2⟩); have X2 : Ext w w2 := Ext.trans (by repeat (first | exact Ext.refl _ | with_reducible assumption | refine Ext.alloc ?_ _ | refine Ext.drew ?_ | refine ext_gw ?_ _)) x2; have s2 := hide (own_jw (S := []) o2 (by simp)); obtain ⟨A2, c2, rfl⟩ := own_form o2; clear o2; replace s1 := hide (Sl.ext s1.out x2); clear x1 x2 X1) | (go_at_call 15; (first | (with_reducible refine seq_gw' (ha1.out _ (by repeat (first | exact Ext.refl _ | with_reducible assumption | refine Ext.alloc ?_ _ | refine Ext.drew ?_ | refine ext_gw ?_ _))) ?_) | (with_reducible refine seq_gw (ha1.out _ (by repeat (first | exact Ext.refl _ | with_reducible assumption | refine Ext.alloc ?_ _ | refine Ext.drew ?_ | refine ext_gw ?_ _))) ?_) | (with_reducible refine seq_gw' (ha2.out _ (by repeat (first | exact Ext.refl _ | with_reducible assumption | refine Ext.alloc ?_ _ | refine Ext.drew ?_ | refine ext_gw ?_ _))) ?_) | (with_reducible refine seq_gw (ha2.out _ (by repeat (first | exact Ext.refl _ | with_reducible assumption | refine Ext.alloc ?_ _ | refine Ext.drew ?_ | refine ext_gw ?_ _))) ?_)); intro g) | (go_at_call 15; (first | (with_reducible refine seq_gw' (hpa.out _ _ (Sl.ext s1.out (by repeat (first | exact Ext.refl _ | with_reducible assumption | refine Ext.alloc ?_ _ | refine Ext.drew ?_ | refine ext_gw ?_ _)))) ?_) | (with_reducible refine seq_gw (hpa.out _ _ (Sl.ext s1.out (by repeat (first | exact Ext.refl _ | with_reducible assumption | refine Ext.alloc ?_ _ | refine Ext.drew ?_ | refine ext_gw ?_ _)))) ?_) | (with_reducible refine seq_gw' (hpm.out _ _ (Sl.ext s2.out (by repeat (first | exact Ext.refl _ | with_reducible assumption | refine Ext.alloc ?_ _ | refine Ext.drew ?_ | refine ext_gw ?_ _)))) ?_) | (with_reducible refine seq_gw (hpm.out _ _ (Sl.ext s2.out (by repeat (first | exact Ext.refl _ | with_reducible assumption | refine Ext.alloc ?_ _ | refine Ext.drew ?_ | refine ext_gw ?_ _)))) ?_)); intro g) | (go_at_call 9; (first | (with_reducible refine seq_gw' (stepLive_c _) ?_) | (with_reducible refine seq_gw (stepLive_c _) ?_)); intro g))
          go_returns
          exact ⟨by first | rfl | simp, (by repeat (first | exact Ext.refl _ | with_reducible assumption | refine Ext.alloc ?_ _ | refine Ext.drew ?_ | refine ext_gw ?_ _))⟩

theorem own : ownKnob Try.prog.godebug = none := by kernel_rfl
theorem laidOut : laidOutB Try.prog = true := by kernel_rfl
set_option maxRecDepth 100000 in
theorem lifted (os : Os) (started : os.Started) (H : Type) (enc : TypeId × Value → H) :
    ReturnsInHanded {} Try.checked os 7 .any (Rows.stepPointsSpec.pre6 enc Try.prog Try.f7 Rows.stepPointsRow.domain false) (Rows.stepPointsSpec.post enc Try.prog Try.f7 false true false false) := by
  refine returnsInHanded_of_change_sized (C := Try.checked) own started (by kernel_rfl) Try.func7
    (ChangeSpec.witness6 (enc := enc) (C := Try.checked) false ⟨#[], #[.slice none 0 0, .slice none 0 0, .int .i64 0], []⟩ 8 (by kernel_rfl) (by kernel_rfl) (by kernel_rfl) (by kernel_rfl)) ?_
  intro W base args ds gs before hval0 hW hcnd hsz0 _
  have hsz : (DataW.weightsEach Try.prog (Try.f7.params.toList ++ Rows.stepPointsSpec.plain.varTypes Try.prog) (ds ++ gs)).all (· ≤ reachBytes) = true := hsz0
  clear hsz0
  have hval : ∀ (j : Nat) t v, Try.f7.params[j]? = some t → args[j]? = some v → Value.okWide Try.prog W .any base t v := hval0
  have hW' := hW
  obtain ⟨p, q, hA0, hV, rfl, hfz, hnd⟩ := hW
  have hA : DataW.TrodAll enc Try.prog W 0 (fun _ => true) true Try.f7.params.toList args.toList ds p := hA0
  rw [Try.params7] at hA hval hsz
  obtain ⟨v0, vs0, d0, ds0, p0, q0, hargs, rfl, rfl, h0, r0⟩ := trodAll_cons hA
  obtain ⟨v1, vs1, d1, ds1, p1, q1, rfl, rfl, rfl, h1, r1⟩ := trodAll_cons r0
  obtain ⟨v2, vs2, d2, ds2, p2, q2, rfl, rfl, rfl, h2, r2⟩ := trodAll_cons r1
  obtain ⟨rfl, rfl, rfl⟩ := trodAll_nil r2
  obtain rfl : args = #[v0, v1, v2] := by cases args; simp_all
  obtain ⟨rfl, rfl⟩ := trodVars_none hV
  have k0 := h0
  have lt0 : ∀ x ∈ p0, x.block < W.heap.size := by obtain ⟨m, hm⟩ := k0; exact DataW.trod_lt m _ _ _ hm
  obtain ⟨A0, n0, c0, rfl⟩ := okWide_slice Try.underlying22 (hval 0 22 v0 rfl rfl)
  have ⟨m0, hm0⟩ := h0
  obtain ⟨l, ll, hl, ql⟩ := open_pairs Try.underlying22 Try.underlying38 (by kernel_rfl) rfl rfl (by kernel_rfl) (by kernel_rfl) Try.underlying3 Try.underlying3 hm0
  have zl : l.length ≤ 140737488351232 := by rw [ll]; exact sized_len hsz (j := 0) (t := 22) (e := 38) rfl rfl Try.underlying22 (of_decide_eq_true (by kernel_rfl))
  have k1 := h1
  have lt1 : ∀ x ∈ p1, x.block < W.heap.size := by obtain ⟨m, hm⟩ := k1; exact DataW.trod_lt m _ _ _ hm
  obtain ⟨A1, n1, c1, rfl⟩ := okWide_slice Try.underlying22 (hval 1 22 v1 rfl rfl)
  have ⟨m1, hm1⟩ := h1
  obtain ⟨m, lm, hm, qm⟩ := open_pairs Try.underlying22 Try.underlying38 (by kernel_rfl) rfl rfl (by kernel_rfl) (by kernel_rfl) Try.underlying3 Try.underlying3 hm1
  have zm : m.length ≤ 140737488351232 := by rw [lm]; exact sized_len hsz (j := 1) (t := 22) (e := 38) rfl rfl Try.underlying22 (of_decide_eq_true (by kernel_rfl))
  have k2 := h2
  have lt2 : ∀ x ∈ p2, x.block < W.heap.size := by obtain ⟨m, hm⟩ := k2; exact DataW.trod_lt m _ _ _ hm
  obtain ⟨t, rfl, _, _, wt⟩ := open_int Try.underlying3 (hval 2 3 v2 rfl rfl) h2
  have ht := wf_i64 wt
  clear hA0 hval0
  refine (walk l m t _ _ W hl hm).mono fun e W' ⟨he, bel⟩ => ?_
  subst he
  exact ⟨_, rfl, _, _, _, [], _, [], hW', trodAll_mk1 (shut_bool Try.underlying4 _), (trodAll_cons_mk (Below.trod laidOut (by kernel_rfl) (of_decide_eq_true (by kernel_rfl)) k0 bel lt0) (trodAll_cons_mk (Below.trod laidOut (by kernel_rfl) (of_decide_eq_true (by kernel_rfl)) k1 bel lt1) (trodAll_cons_mk (Below.trod laidOut (by kernel_rfl) (of_decide_eq_true (by kernel_rfl)) k2 bel lt2) trodAll_mk0))), rfl, bel.frame _, fun h => by cases h⟩

theorem over : Rows.stepPointsRow.holds Try.pinned (OpenSpec.ofChange Rows.stepPointsSpec) :=
  OpenClaim.holds_of_wide 7 Try.f7 rfl rfl rfl rfl rfl rfl rfl ⟨rfl, rfl, rfl, rfl, rfl⟩ rfl rfl rfl rfl rfl (by kernel_rfl) Try.func7 (by kernel_rfl)
    (of_decide_eq_true (by kernel_rfl)) (by unfold Func.isWrapper; first | (rw [if_pos (by decide +kernel)]; kernel_rfl) | (rw [if_neg (by decide +kernel)]; exact ⟨rfl, rfl⟩))
    (fun os started H enc _ => lifted os started H enc)

theorem stepPoints_holds : Rows.StepPointsSaid := over
end Go.Proofs.Ytjigchaahbbkpab.stepPoints
