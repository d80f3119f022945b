/-
  Layer 9 (step), 9.2: for every two lists of jumps (of which those of up to 60 count), sums, products, and one function where the other one is 0, and the other sign, are those that the document says. No condition.
-/
import Derived.Test.YtjigchaahbbkpabStepL
import Derived.Test.YtjigchaahbbkpabStepY1
import Derived.Test.YtjigchaahbbkpabStepY2
import Derived.Test.YtjigchaahbbkpabStepY3
import Derived.Test.YtjigchaahbbkpabArg
import Derived.WalkKit
import Derived.ProofKit
import Derived.OpenShut
import Derived.ShutString
import Derived.ChangeOld
import Derived.Below
import Derived.Lib.SmallJoins
import Derived.SizedLaws
import Derived.Deep.CondSized
import Derived.JoinedCond
set_option linter.unusedVariables false
set_option linter.unusedSimpArgs false
namespace Go.Proofs.Ytjigchaahbbkpab.stepTwo
open Go.ChangeShapes Go.WideShapes Go.ChangeAt Go.RowKit Go.Joins
open Go.ChangeMaps (open_string shut_string)
attribute [local go_sem] GW.cell GW.frozen In.eq_true In.le_true In.ne In.ne' In.ne_add In.ne_add' In.lt_add Upto.le_true Upto.le_add Upto.lt_add
set_option maxHeartbeats 8000000 in
set_option maxRecDepth 100000 in
theorem walk (l m : List Jp) (v u : Value) (w : World) (h : Jw w [] v l) (h2 : Jw w [] u m) : Calls Try.prog 5 #[v, u] w fun e w' => e = .returned (.bool true) ∧ Ext w w' := by
  have hS : Hid (∀ (l : List Jp) w' v' u', Jw w' [] v' l → Jw w' [] u' l → Calls Try.prog 12 #[v', u'] w' fun e w'' => e = .returned (.bool true) ∧ Ext w' w'') := fun l w' v' u' h h2 => by
    have := refStepSame_c l l v' u' w' h h2
    rwa [decide_eq_true rfl] at this
  have hX0 := Ext.refl w
  have ht1 := hide (fun w' (hX : Ext w w') => stepAdd_c l m v u w' (Sl.ext h hX) (Sl.ext h2 hX))
  have ht2 := hide (fun w' (hX : Ext w w') => refTwoAdd_c l m v u w' (Sl.ext h hX) (Sl.ext h2 hX))
  have ht3 := hide (fun w' (hX : Ext w w') => stepMul_c l m v u w' (Sl.ext h hX) (Sl.ext h2 hX))
  have ht4 := hide (fun w' (hX : Ext w w') => refTwoMul_c l m v u w' (Sl.ext h hX) (Sl.ext h2 hX))
  have ht5 := hide (fun w' (hX : Ext w w') => stepWhere_c l m v u w' (Sl.ext h hX) (Sl.ext h2 hX))
  have ht6 := hide (fun w' (hX : Ext w w') => refTwoWh_c l m v u w' (Sl.ext h hX) (Sl.ext h2 hX))
  have ht7 := hide (fun w' (hX : Ext w w') => stepNeg_c l v w' (Sl.ext h hX))
  have ht8 := hide (fun w' (hX : Ext w w') => refNeg_c l v w' (Sl.ext h hX))
  generalize twE addO l m = E1 at *
  generalize twR addO l m = R1 at *
  generalize twE mulO l m = E2 at *
  generalize twR mulO l m = R2 at *
  generalize twE whO l m = E3 at *
  generalize twR whO l m = R3 at *
  generalize ngE l = E4 at *
  generalize ngR l = R4 at *
  by_cases h60 : l.length ≤ 60
  · have hfw := hide (fun w' (hX : Ext w w') => fewJ_yes l h60 v w' (Sl.ext h hX))
    by_cases g60 : m.length ≤ 60
    · have hgw := hide (fun w' (hX : Ext w w') => fewJ_yes m g60 u w' (Sl.ext h2 hX))
      obtain ⟨A, cap, rfl, -, -, -⟩ := jw_form h
      obtain ⟨A', cap', rfl, -, -, -⟩ := jw_form h2
      clear h h2 h60 g60
      go_enter Try.func5, Try.ntmps5
      go_wp2_with (first | (go_at_call 8; (first | (with_reducible refine seq_gw' (hfw.out _ (by repeat (first | exact Ext.refl _ | with_reducible assumption | refine Ext.alloc ?_ _ | refine Ext.drew ?_ | refine ext_gw ?_ _))) ?_) | (with_reducible refine seq_gw (hfw.out _ (by repeat (first | exact Ext.refl _ | with_reducible assumption | refine Ext.alloc ?_ _ | refine Ext.drew ?_ | refine ext_gw ?_ _))) ?_) | (with_reducible refine seq_gw' (hgw.out _ (by repeat (first | exact Ext.refl _ | with_reducible assumption | refine Ext.alloc ?_ _ | refine Ext.drew ?_ | refine ext_gw ?_ _))) ?_) | (with_reducible refine seq_gw (hgw.out _ (by repeat (first | exact Ext.refl _ | with_reducible assumption | refine Ext.alloc ?_ _ | refine Ext.drew ?_ | refine ext_gw ?_ _))) ?_)); intro g) | (go_at_call 19; ((with_reducible refine (ht1.out _ (by repeat (first | exact Ext.refl _ | with_reducible assumption | refine Ext.alloc ?_ _ | refine Ext.drew ?_ | refine ext_gw ?_ _))).mono ?_); rintro ee w1 ⟨v1, rfl, o1, x1⟩); have X1 : Ext w w1 := Ext.trans (by repeat (first | exact Ext.refl _ | with_reducible assumption | refine Ext.alloc ?_ _ | refine Ext.drew ?_ | refine ext_gw ?_ _)) x1; have s1 := hide (own_jw (S := []) o1 (by simp)); obtain ⟨A1, c1, rfl⟩ := own_form o1; clear o1) | (go_at_call 20; ((with_reducible refine (ht2.out _ (by repeat (first | exact Ext.refl _ | with_reducible assumption | refine Ext.alloc ?_ _ | refine Ext.drew ?_ | refine ext_gw ?_ _))).mono ?_); rintro ee w2 ⟨v2, rfl, o2, x2⟩); have X2 : Ext w w2 := Ext.trans (by repeat (first | exact Ext.refl _ | with_reducible assumption | refine Ext.alloc ?_ _ | refine Ext.drew ?_ | refine ext_gw ?_ _)) x2; have s2 := hide (own_jw (S := []) o2 (by simp)); obtain ⟨A2, c2, rfl⟩ := own_form o2; clear o2; replace s1 := hide (Sl.ext s1.out x2)) | (go_at_call 12; (first | (with_reducible refine seq_gw' (hS.out _ _ _ _ (Sl.ext s1.out (by repeat (first | exact Ext.refl _ | with_reducible assumption | refine Ext.alloc ?_ _ | refine Ext.drew ?_ | refine ext_gw ?_ _))) (Sl.ext s2.out (by repeat (first | exact Ext.refl _ | with_reducible assumption | refine Ext.alloc ?_ _ | refine Ext.drew ?_ | refine ext_gw ?_ _)))) ?_) | (with_reducible refine seq_gw (hS.out _ _ _ _ (Sl.ext s1.out (by repeat (first | exact Ext.refl _ | with_reducible assumption | refine Ext.alloc ?_ _ | refine Ext.drew ?_ | refine ext_gw ?_ _))) (Sl.ext s2.out (by repeat (first | exact Ext.refl _ | with_reducible assumption | refine Ext.alloc ?_ _ | refine Ext.drew ?_ | refine ext_gw ?_ _)))) ?_)); intro g) | (go_at_call 21; ((with_reducible refine (ht3.out _ (by repeat (first | exact Ext.refl _ | with_reducible assumption | refine Ext.alloc ?_ _ | refine Ext.drew ?_ | refine ext_gw ?_ _))).mono ?_); rintro ee w3 ⟨v3, rfl, o3, x3⟩); have X3 : Ext w w3 := Ext.trans (by repeat (first | exact Ext.refl _ | with_reducible assumption | refine Ext.alloc ?_ _ | refine Ext.drew ?_ | refine ext_gw ?_ _)) x3; have s3 := hide (own_jw (S := []) o3 (by simp)); obtain ⟨A3, c3, rfl⟩ := own_form o3; clear o3) | (go_at_call 20; ((with_reducible refine (ht4.out _ (by repeat (first | exact Ext.refl _ | with_reducible assumption | refine Ext.alloc ?_ _ | refine Ext.drew ?_ | refine ext_gw ?_ _))).mono ?_); rintro ee w4 ⟨v4, rfl, o4, x4⟩); have X4 : Ext w w4 := Ext.trans (by repeat (first | exact Ext.refl _ | with_reducible assumption | refine Ext.alloc ?_ _ | refine Ext.drew ?_ | refine ext_gw ?_ _)) x4; have s4 := hide (own_jw (S := []) o4 (by simp)); obtain ⟨A4, c4, rfl⟩ := own_form o4; clear o4; replace s3 := hide (Sl.ext s3.out x4)) | (go_at_call 12; (first | (with_reducible refine seq_gw' (hS.out _ _ _ _ (Sl.ext s3.out (by repeat (first | exact Ext.refl _ | with_reducible assumption | refine Ext.alloc ?_ _ | refine Ext.drew ?_ | refine ext_gw ?_ _))) (Sl.ext s4.out (by repeat (first | exact Ext.refl _ | with_reducible assumption | refine Ext.alloc ?_ _ | refine Ext.drew ?_ | refine ext_gw ?_ _)))) ?_) | (with_reducible refine seq_gw (hS.out _ _ _ _ (Sl.ext s3.out (by repeat (first | exact Ext.refl _ | with_reducible assumption | refine Ext.alloc ?_ _ | refine Ext.drew ?_ | refine ext_gw ?_ _))) (Sl.ext s4.out (by repeat (first | exact Ext.refl _ | with_reducible assumption | refine Ext.alloc ?_ _ | refine Ext.drew ?_ | refine ext_gw ?_ _)))) ?_)); intro g) | (go_at_call 22; ((with_reducible refine (ht5.out _ (by repeat (first | exact Ext.refl _ | with_reducible assumption | refine Ext.alloc ?_ _ | refine Ext.drew ?_ | refine ext_gw ?_ _))).mono ?_); rintro ee w5 ⟨v5, rfl, o5, x5⟩); have X5 : Ext w w5 := Ext.trans (by repeat (first | exact Ext.refl _ | with_reducible assumption | refine Ext.alloc ?_ _ | refine Ext.drew ?_ | refine ext_gw ?_ _)) x5; have s5 := hide (own_jw (S := []) o5 (by simp)); obtain ⟨A5, c5, rfl⟩ := own_form o5; clear o5) | (go_at_call 20; ((with_reducible refine (ht6.out _ (by repeat (first | exact Ext.refl _ | with_reducible assumption | refine Ext.alloc ?_ _ | refine Ext.drew ?_ | refine ext_gw ?_ _))).mono ?_); rintro ee w6 ⟨v6, rfl, o6, x6⟩); have X6 : Ext w w6 := Ext.trans (by repeat (first | exact Ext.refl _ | with_reducible assumption | refine Ext.alloc ?_ _ | refine Ext.drew ?_ | refine ext_gw ?_ _)) x6; have s6 := hide (own_jw (S := []) o6 (by simp)); obtain ⟨A6, c6, rfl⟩ := own_form o6; clear o6; replace s5 := hide (Sl.ext s5.out x6)) | (go_at_call 12; (first | (with_reducible refine seq_gw' (hS.out _ _ _ _ (Sl.ext s5.out (by repeat (first | exact Ext.refl _ | with_reducible assumption | refine Ext.alloc ?_ _ | refine Ext.drew ?_ | refine ext_gw ?_ _))) (Sl.ext s6.out (by repeat (first | exact Ext.refl _ | with_reducible assumption | refine Ext.alloc ?_ _ | refine Ext.drew ?_ | refine ext_gw ?_ _)))) ?_) | (with_reducible refine seq_gw (hS.out _ _ _ _ (Sl.ext s5.out (by repeat (first | exact Ext.refl _ | with_reducible assumption | refine Ext.alloc ?_ _ | refine Ext.drew ?_ | refine ext_gw ?_ _))) (Sl.ext s6.out (by repeat (first | exact Ext.refl _ | with_reducible assumption | refine Ext.alloc ?_ _ | refine Ext.drew ?_ | refine ext_gw ?_ _)))) ?_)); intro g) | (go_at_call 23; ((with_reducible refine (ht7.out _ (by repeat (first | exact Ext.refl _ | with_reducible assumption | refine Ext.alloc ?_ _ | refine Ext.drew ?_ | refine ext_gw ?_ _))).mono ?_); rintro ee w7 ⟨v7, rfl, o7, x7⟩); have X7 : Ext w w7 := Ext.trans (by repeat (first | exact Ext.refl _ | with_reducible assumption | refine Ext.alloc ?_ _ | refine Ext.drew ?_ | refine ext_gw ?_ _)) x7; have s7 := hide (own_jw (S := []) o7 (by simp)); obtain ⟨A7, c7, rfl⟩ := own_form o7; clear o7) | (go_at_call 24; ((with_reducible refine (ht8.out _ (by repeat (first | exact Ext.refl _ | with_reducible assumption | refine Ext.alloc ?_ _ | refine Ext.drew ?_ | refine ext_gw ?_ _))).mono ?_); rintro ee w8 ⟨v8, rfl, o8, x8⟩); have X8 : Ext w w8 := Ext.trans (by repeat (first | exact Ext.refl _ | with_reducible assumption | refine Ext.alloc ?_ _ | refine Ext.drew ?_ | refine ext_gw ?_ _)) x8; have s8 := hide (own_jw (S := []) o8 (by simp)); obtain ⟨A8, c8, rfl⟩ := own_form o8; clear o8; replace s7 := hide (Sl.ext s7.out x8)) | (go_at_call 12; (first | (with_reducible refine seq_gw' (hS.out _ _ _ _ (Sl.ext s7.out (by repeat (first | exact Ext.refl _ | with_reducible assumption | refine Ext.alloc ?_ _ | refine Ext.drew ?_ | refine ext_gw ?_ _))) (Sl.ext s8.out (by repeat (first | exact Ext.refl _ | with_reducible assumption | refine Ext.alloc ?_ _ | refine Ext.drew ?_ | refine ext_gw ?_ _)))) ?_) | (with_reducible refine seq_gw (hS.out _ _ _ _ (Sl.ext s7.out (by repeat (first | exact Ext.refl _ | with_reducible assumption | refine Ext.alloc ?_ _ | refine Ext.drew ?_ | refine ext_gw ?_ _))) (Sl.ext s8.out (by repeat (first | exact Ext.refl _ | with_reducible assumption | refine Ext.alloc ?_ _ | refine Ext.drew ?_ | refine ext_gw ?_ _)))) ?_)); intro g) | (go_at_call 9; (first | (with_reducible refine seq_gw' (stepLive_c _) ?_) | (with_reducible refine seq_gw (stepLive_c _) ?_)); intro g))
      go_returns
      exact ⟨by first | rfl | simp, (by repeat (first | exact Ext.refl _ | with_reducible assumption | refine Ext.alloc ?_ _ | refine Ext.drew ?_ | refine ext_gw ?_ _))⟩
    · have hgw := hide (fun w' (hX : Ext w w') => fewJ_no m g60 u w' (Sl.ext h2 hX))
      obtain ⟨A, cap, rfl, -, -, -⟩ := jw_form h
      obtain ⟨A', cap', rfl, -, -, -⟩ := jw_form h2
      clear h h2 h60 g60
      go_enter Try.func5, Try.ntmps5
      go_wp2_with (first | (go_at_call 8; (first | (with_reducible refine seq_gw' (hfw.out _ (by repeat (first | exact Ext.refl _ | with_reducible assumption | refine Ext.alloc ?_ _ | refine Ext.drew ?_ | refine ext_gw ?_ _))) ?_) | (with_reducible refine seq_gw (hfw.out _ (by repeat (first | exact Ext.refl _ | with_reducible assumption | refine Ext.alloc ?_ _ | refine Ext.drew ?_ | refine ext_gw ?_ _))) ?_) | (with_reducible refine seq_gw' (hgw.out _ (by repeat (first | exact Ext.refl _ | with_reducible assumption | refine Ext.alloc ?_ _ | refine Ext.drew ?_ | refine ext_gw ?_ _))) ?_) | (with_reducible refine seq_gw (hgw.out _ (by repeat (first | exact Ext.refl _ | with_reducible assumption | refine Ext.alloc ?_ _ | refine Ext.drew ?_ | refine ext_gw ?_ _))) ?_)); intro g) | (go_at_call 9; (first | (with_reducible refine seq_gw' (stepLive_c _) ?_) | (with_reducible refine seq_gw (stepLive_c _) ?_)); intro g))
      go_returns
      exact ⟨by first | rfl | simp, (by repeat (first | exact Ext.refl _ | with_reducible assumption | refine Ext.alloc ?_ _ | refine Ext.drew ?_ | refine ext_gw ?_ _))⟩
  · have hfw := hide (fun w' (hX : Ext w w') => fewJ_no l h60 v w' (Sl.ext h hX))
    obtain ⟨A, cap, rfl, -, -, -⟩ := jw_form h
    obtain ⟨A', cap', rfl, -, -, -⟩ := jw_form h2
    clear h h2 h60
    go_enter Try.func5, Try.ntmps5
    go_wp2_with (first | (go_at_call 8; (first | (with_reducible refine seq_gw' (hfw.out _ (by repeat (first | exact Ext.refl _ | with_reducible assumption | refine Ext.alloc ?_ _ | refine Ext.drew ?_ | refine ext_gw ?_ _))) ?_) | (with_reducible refine seq_gw (hfw.out _ (by repeat (first | exact Ext.refl _ | with_reducible assumption | refine Ext.alloc ?_ _ | refine Ext.drew ?_ | refine ext_gw ?_ _))) ?_)); intro g) | (go_at_call 9; (first | (with_reducible refine seq_gw' (stepLive_c _) ?_) | (with_reducible refine seq_gw (stepLive_c _) ?_)); intro g))
    go_returns
    exact ⟨by first | rfl | simp, (by repeat (first | exact Ext.refl _ | with_reducible assumption | refine Ext.alloc ?_ _ | refine Ext.drew ?_ | refine ext_gw ?_ _))⟩

theorem own : ownKnob Try.prog.godebug = none := by kernel_rfl
theorem laidOut : laidOutB Try.prog = true := by kernel_rfl
set_option maxRecDepth 100000 in
theorem lifted (os : Os) (started : os.Started) (H : Type) (enc : TypeId × Value → H) :
    ReturnsInHanded {} Try.checked os 5 .any (Rows.stepTwoSpec.pre6 enc Try.prog Try.f5 Rows.stepTwoRow.domain false) (Rows.stepTwoSpec.post enc Try.prog Try.f5 false true false false) := by
  refine returnsInHanded_of_change_sized (C := Try.checked) own started (by kernel_rfl) Try.func5
    (ChangeSpec.witness6 (enc := enc) (C := Try.checked) false ⟨#[], #[.slice none 0 0, .slice none 0 0], []⟩ 8 (by kernel_rfl) (by kernel_rfl) (by kernel_rfl) (by kernel_rfl)) ?_
  intro W base args ds gs before hval0 hW hcnd hsz0 _
  have hsz : (DataW.weightsEach Try.prog (Try.f5.params.toList ++ Rows.stepTwoSpec.plain.varTypes Try.prog) (ds ++ gs)).all (· ≤ reachBytes) = true := hsz0
  clear hsz0
  have hval : ∀ (j : Nat) t v, Try.f5.params[j]? = some t → args[j]? = some v → Value.okWide Try.prog W .any base t v := hval0
  have hW' := hW
  obtain ⟨p, q, hA0, hV, rfl, hfz, hnd⟩ := hW
  have hA : DataW.TrodAll enc Try.prog W 0 (fun _ => true) true Try.f5.params.toList args.toList ds p := hA0
  rw [Try.params5] at hA hval hsz
  obtain ⟨v0, vs0, d0, ds0, p0, q0, hargs, rfl, rfl, h0, r0⟩ := trodAll_cons hA
  obtain ⟨v1, vs1, d1, ds1, p1, q1, rfl, rfl, rfl, h1, r1⟩ := trodAll_cons r0
  obtain ⟨rfl, rfl, rfl⟩ := trodAll_nil r1
  obtain rfl : args = #[v0, v1] := by cases args; simp_all
  obtain ⟨rfl, rfl⟩ := trodVars_none hV
  have k0 := h0
  have lt0 : ∀ x ∈ p0, x.block < W.heap.size := by obtain ⟨m, hm⟩ := k0; exact DataW.trod_lt m _ _ _ hm
  obtain ⟨A0, n0, c0, rfl⟩ := okWide_slice Try.underlying22 (hval 0 22 v0 rfl rfl)
  have ⟨m0, hm0⟩ := h0
  obtain ⟨l, ll, hl, ql⟩ := open_pairs Try.underlying22 Try.underlying38 (by kernel_rfl) rfl rfl (by kernel_rfl) (by kernel_rfl) Try.underlying3 Try.underlying3 hm0
  have zl : l.length ≤ 140737488351232 := by rw [ll]; exact sized_len hsz (j := 0) (t := 22) (e := 38) rfl rfl Try.underlying22 (of_decide_eq_true (by kernel_rfl))
  have k1 := h1
  have lt1 : ∀ x ∈ p1, x.block < W.heap.size := by obtain ⟨m, hm⟩ := k1; exact DataW.trod_lt m _ _ _ hm
  obtain ⟨A1, n1, c1, rfl⟩ := okWide_slice Try.underlying22 (hval 1 22 v1 rfl rfl)
  have ⟨m1, hm1⟩ := h1
  obtain ⟨m, lm, hm, qm⟩ := open_pairs Try.underlying22 Try.underlying38 (by kernel_rfl) rfl rfl (by kernel_rfl) (by kernel_rfl) Try.underlying3 Try.underlying3 hm1
  have zm : m.length ≤ 140737488351232 := by rw [lm]; exact sized_len hsz (j := 1) (t := 22) (e := 38) rfl rfl Try.underlying22 (of_decide_eq_true (by kernel_rfl))
  clear hA0 hval0
  refine (walk l m _ _ W hl hm).mono fun e W' ⟨he, bel⟩ => ?_
  subst he
  exact ⟨_, rfl, _, _, _, [], _, [], hW', trodAll_mk1 (shut_bool Try.underlying4 _), (trodAll_cons_mk (Below.trod laidOut (by kernel_rfl) (of_decide_eq_true (by kernel_rfl)) k0 bel lt0) (trodAll_cons_mk (Below.trod laidOut (by kernel_rfl) (of_decide_eq_true (by kernel_rfl)) k1 bel lt1) trodAll_mk0)), rfl, bel.frame _, fun h => by cases h⟩

theorem over : Rows.stepTwoRow.holds Try.pinned (OpenSpec.ofChange Rows.stepTwoSpec) :=
  OpenClaim.holds_of_wide 5 Try.f5 rfl rfl rfl rfl rfl rfl rfl ⟨rfl, rfl, rfl, rfl, rfl⟩ rfl rfl rfl rfl rfl (by kernel_rfl) Try.func5 (by kernel_rfl)
    (of_decide_eq_true (by kernel_rfl)) (by unfold Func.isWrapper; first | (rw [if_pos (by decide +kernel)]; kernel_rfl) | (rw [if_neg (by decide +kernel)]; exact ⟨rfl, rfl⟩))
    (fun os started H enc _ => lifted os started H enc)

theorem stepTwo_holds : Rows.StepTwoSaid := over
end Go.Proofs.Ytjigchaahbbkpab.stepTwo
