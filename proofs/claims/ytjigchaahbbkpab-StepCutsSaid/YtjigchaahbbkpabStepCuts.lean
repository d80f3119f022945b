/-
  Layer 9 (step), 9.2: for every list of jumps (of which those of up to 60 count), and place, what is ahead of it, and what is from it on, is as the document says. No condition.
-/
import Derived.Test.YtjigchaahbbkpabStepL
import Derived.Test.YtjigchaahbbkpabStepY1
import Derived.Test.YtjigchaahbbkpabStepY2
import Derived.Test.YtjigchaahbbkpabStepY3
import Derived.Test.YtjigchaahbbkpabArg
import Derived.WalkKit
import Derived.ProofKit
import Derived.OpenShut
import Derived.ShutString
import Derived.ChangeOld
import Derived.Below
import Derived.Lib.SmallJoins
import Derived.SizedLaws
import Derived.Deep.CondSized
import Derived.JoinedCond
set_option linter.unusedVariables false
set_option linter.unusedSimpArgs false
namespace Go.Proofs.Ytjigchaahbbkpab.stepCuts
open Go.ChangeShapes Go.WideShapes Go.ChangeAt Go.RowKit Go.Joins
open Go.ChangeMaps (open_string shut_string)
attribute [local go_sem] GW.cell GW.frozen In.eq_true In.le_true In.ne In.ne' In.ne_add In.ne_add' In.lt_add Upto.le_true Upto.le_add Upto.lt_add
set_option maxHeartbeats 8000000 in
set_option maxRecDepth 100000 in
theorem walk (l : List Jp) (t : Int) (v : Value) (w : World) (h : Jw w [] v l) : Calls Try.prog 6 #[v, .int .i64 t] w fun e w' => e = .returned (.bool true) ∧ Ext w w' := by
  have hS : Hid (∀ (l : List Jp) w' v' u', Jw w' [] v' l → Jw w' [] u' l → Calls Try.prog 12 #[v', u'] w' fun e w'' => e = .returned (.bool true) ∧ Ext w' w'') := fun l w' v' u' h h2 => by
    have := refStepSame_c l l v' u' w' h h2
    rwa [decide_eq_true rfl] at this
  by_cases h60 : l.length ≤ 60
  · have hfw := hide (fewJ_yes l h60 v w h)
    have ha1 := hide (fun w' (hX : Ext w w') => stepAhead_c l t v w' (Sl.ext h hX))
    have ha2 := hide (fun w' (hX : Ext w w') => refAhead_c l t v w' (Sl.ext h hX))
    have hr1 := hide (fun w' (hX : Ext w w') => stepRest_c l t v w' (Sl.ext h hX))
    have hr2 := hide (fun w' (hX : Ext w w') => refRest_c l t v w' (Sl.ext h hX))
    generalize ahE l t = E1 at *
    generalize ahR l t = R1 at *
    generalize reE l t = E2 at *
    generalize reR l t = R2 at *
    obtain ⟨A, cap, rfl, -, -, -⟩ := jw_form h
    have hX0 := Ext.refl w
    clear h h60
    go_enter Try.func6, Try.ntmps6
    go_wp2_with (first | (go_at_call 8; (first | (with_reducible refine seq_gw' (hfw.out) ?_) | (with_reducible refine seq_gw (hfw.out) ?_)); intro g) | (go_at_call 25; ((with_reducible refine (ha1.out _ (by repeat (first | exact Ext.refl _ | with_reducible assumption | refine Ext.alloc ?_ _ | refine Ext.drew ?_ | refine ext_gw ?_ _))).mono ?_); rintro ee w1 ⟨v1, rfl, o1, x1⟩); have X1 : Ext w w1 := Ext.trans (by repeat (first | exact Ext.refl _ | with_reducible assumption | refine Ext.alloc ?_ _ | refine Ext.drew ?_ | refine ext_gw ?_ _)) x1; have s1 := hide (own_jw (S := []) o1 (by simp)); obtain ⟨A1, c1, rfl⟩ := own_form o1; clear o1) | (go_at_call 26; ((with_reducible refine (ha2.out _ (by repeat (first | exact Ext.refl _ | with_reducible assumption | refine Ext.alloc ?_ _ | refine Ext.drew ?_ | refine ext_gw ?_ _))).mono ?_); rintro ee w2 ⟨v2, rfl, o2, x2⟩); have X2 : Ext w w2 := Ext.trans (by repeat (first | exact Ext.refl _ | with_reducible assumption | refine Ext.alloc ?_ _ | refine Ext.drew ?_ | refine ext_gw ?_ _)) x2; have s2 := hide (own_jw (S := []) o2 (by simp)); obtain ⟨A2, c2, rfl⟩ := own_form o2; clear o2) | (go_at_call 27; ((with_reducible refine (hr1.out _ (by repeat (first | exact Ext.refl _ | with_reducible assumption | refine Ext.alloc ?_ _ | refine Ext.drew ?_ | refine ext_gw ?_ _))).mono ?_); rintro ee w3 ⟨v3, rfl, o3, x3⟩); have X3 : Ext w w3 := Ext.trans (by repeat (first | exact Ext.refl _ | with_reducible assumption | refine Ext.alloc ?_ _ | refine Ext.drew ?_ | refine ext_gw ?_ _)) x3; have s3 := hide (own_jw (S := []) o3 (by simp)); obtain ⟨A3, c3, rfl⟩ := own_form o3; clear o3) | (go_at_call 28; ((with_reducible refine (hr2.out _ (by repeat (first | exact Ext.refl _ | with_reducible assumption | refine Ext.alloc ?_ _ | refine Ext.drew ?_ | refine ext_gw ?_ _))).mono ?_); rintro ee w4 ⟨v4, rfl, o4, x4⟩); have X4 : Ext w w4 := Ext.trans (by repeat (first | exact Ext.refl _ | with_reducible assumption | refine Ext.alloc ?_ _ | refine Ext.drew ?_ | refine ext_gw ?_ _)) x4; have s4 := hide (own_jw (S := []) o4 (by simp)); obtain ⟨A4, c4, rfl⟩ := own_form o4; clear o4; replace s3 := hide (Sl.ext s3.out x4); replace s2 := hide (Sl.ext s2.out (x3.trans x4)); replace s1 := hide (Sl.ext s1.out (x2.trans (x3.trans x4))); clear x1 x2 x3 x4 X1 X2 X3) | (go_at_call 9; (first | (with_reducible refine seq_gw' (stepLive_c _) ?_) | (with_reducible refine seq_gw (stepLive_c _) ?_)); intro g) | (go_at_call 12; (first | (with_reducible refine seq_gw' (hS.out _ _ _ _ (Sl.ext s1.out (by repeat (first | exact Ext.refl _ | with_reducible assumption | refine Ext.alloc ?_ _ | refine Ext.drew ?_ | refine ext_gw ?_ _))) (Sl.ext s2.out (by repeat (first | exact Ext.refl _ | with_reducible assumption | refine Ext.alloc ?_ _ | refine Ext.drew ?_ | refine ext_gw ?_ _)))) ?_) | (with_reducible refine seq_gw (hS.out _ _ _ _ (Sl.ext s1.out (by repeat (first | exact Ext.refl _ | with_reducible assumption | refine Ext.alloc ?_ _ | refine Ext.drew ?_ | refine ext_gw ?_ _))) (Sl.ext s2.out (by repeat (first | exact Ext.refl _ | with_reducible assumption | refine Ext.alloc ?_ _ | refine Ext.drew ?_ | refine ext_gw ?_ _)))) ?_)); intro g) | (go_at_call 12; (first | (with_reducible refine seq_gw' (hS.out _ _ _ _ (Sl.ext s3.out (by repeat (first | exact Ext.refl _ | with_reducible assumption | refine Ext.alloc ?_ _ | refine Ext.drew ?_ | refine ext_gw ?_ _))) (Sl.ext s4.out (by repeat (first | exact Ext.refl _ | with_reducible assumption | refine Ext.alloc ?_ _ | refine Ext.drew ?_ | refine ext_gw ?_ _)))) ?_) | (with_reducible refine seq_gw (hS.out _ _ _ _ (Sl.ext s3.out (by repeat (first | exact Ext.refl _ | with_reducible assumption | refine Ext.alloc ?_ _ | refine Ext.drew ?_ | refine ext_gw ?_ _))) (Sl.ext s4.out (by repeat (first | exact Ext.refl _ | with_reducible assumption | refine Ext.alloc ?_ _ | refine Ext.drew ?_ | refine ext_gw ?_ _)))) ?_)); intro g))
    go_returns
    exact ⟨by first | rfl | simp, (by repeat (first | exact Ext.refl _ | with_reducible assumption | refine Ext.alloc ?_ _ | refine Ext.drew ?_ | refine ext_gw ?_ _))⟩
  · have hfw := hide (fewJ_no l h60 v w h)
    obtain ⟨A, cap, rfl, -, -, -⟩ := jw_form h
    clear h h60
    go_enter Try.func6, Try.ntmps6
    go_wp2_with (first | (go_at_call 8; (first | (with_reducible refine seq_gw' (hfw.out) ?_) | (with_reducible refine seq_gw (hfw.out) ?_)); intro g) | (go_at_call 9; (first | (with_reducible refine seq_gw' (stepLive_c _) ?_) | (with_reducible refine seq_gw (stepLive_c _) ?_)); intro g))
    go_returns
    exact ⟨by first | rfl | simp, (by repeat (first | exact Ext.refl _ | with_reducible assumption | refine Ext.alloc ?_ _ | refine Ext.drew ?_ | refine ext_gw ?_ _))⟩

theorem own : ownKnob Try.prog.godebug = none := by kernel_rfl
theorem laidOut : laidOutB Try.prog = true := by kernel_rfl
set_option maxRecDepth 100000 in
theorem lifted (os : Os) (started : os.Started) (H : Type) (enc : TypeId × Value → H) :
    ReturnsInHanded {} Try.checked os 6 .any (Rows.stepCutsSpec.pre6 enc Try.prog Try.f6 Rows.stepCutsRow.domain false) (Rows.stepCutsSpec.post enc Try.prog Try.f6 false true false false) := by
  refine returnsInHanded_of_change_sized (C := Try.checked) own started (by kernel_rfl) Try.func6
    (ChangeSpec.witness6 (enc := enc) (C := Try.checked) false ⟨#[], #[.slice none 0 0, .int .i64 0], []⟩ 8 (by kernel_rfl) (by kernel_rfl) (by kernel_rfl) (by kernel_rfl)) ?_
  intro W base args ds gs before hval0 hW hcnd hsz0 _
  have hsz : (DataW.weightsEach Try.prog (Try.f6.params.toList ++ Rows.stepCutsSpec.plain.varTypes Try.prog) (ds ++ gs)).all (· ≤ reachBytes) = true := hsz0
  clear hsz0
  have hval : ∀ (j : Nat) t v, Try.f6.params[j]? = some t → args[j]? = some v → Value.okWide Try.prog W .any base t v := hval0
  have hW' := hW
  obtain ⟨p, q, hA0, hV, rfl, hfz, hnd⟩ := hW
  have hA : DataW.TrodAll enc Try.prog W 0 (fun _ => true) true Try.f6.params.toList args.toList ds p := hA0
  rw [Try.params6] at hA hval hsz
  obtain ⟨v0, vs0, d0, ds0, p0, q0, hargs, rfl, rfl, h0, r0⟩ := trodAll_cons hA
  obtain ⟨v1, vs1, d1, ds1, p1, q1, rfl, rfl, rfl, h1, r1⟩ := trodAll_cons r0
  obtain ⟨rfl, rfl, rfl⟩ := trodAll_nil r1
  obtain rfl : args = #[v0, v1] := by cases args; simp_all
  obtain ⟨rfl, rfl⟩ := trodVars_none hV
  have k0 := h0
  have lt0 : ∀ x ∈ p0, x.block < W.heap.size := by obtain ⟨m, hm⟩ := k0; exact DataW.trod_lt m _ _ _ hm
  obtain ⟨A0, n0, c0, rfl⟩ := okWide_slice Try.underlying22 (hval 0 22 v0 rfl rfl)
  have ⟨m0, hm0⟩ := h0
  obtain ⟨l, ll, hl, ql⟩ := open_pairs Try.underlying22 Try.underlying38 (by kernel_rfl) rfl rfl (by kernel_rfl) (by kernel_rfl) Try.underlying3 Try.underlying3 hm0
  have zl : l.length ≤ 140737488351232 := by rw [ll]; exact sized_len hsz (j := 0) (t := 22) (e := 38) rfl rfl Try.underlying22 (of_decide_eq_true (by kernel_rfl))
  have k1 := h1
  have lt1 : ∀ x ∈ p1, x.block < W.heap.size := by obtain ⟨m, hm⟩ := k1; exact DataW.trod_lt m _ _ _ hm
  obtain ⟨t, rfl, _, _, wt⟩ := open_int Try.underlying3 (hval 1 3 v1 rfl rfl) h1
  have ht := wf_i64 wt
  clear hA0 hval0
  refine (walk l t _ W hl).mono fun e W' ⟨he, bel⟩ => ?_
  subst he
  exact ⟨_, rfl, _, _, _, [], _, [], hW', trodAll_mk1 (shut_bool Try.underlying4 _), (trodAll_cons_mk (Below.trod laidOut (by kernel_rfl) (of_decide_eq_true (by kernel_rfl)) k0 bel lt0) (trodAll_cons_mk (Below.trod laidOut (by kernel_rfl) (of_decide_eq_true (by kernel_rfl)) k1 bel lt1) trodAll_mk0)), rfl, bel.frame _, fun h => by cases h⟩

theorem over : Rows.stepCutsRow.holds Try.pinned (OpenSpec.ofChange Rows.stepCutsSpec) :=
  OpenClaim.holds_of_wide 6 Try.f6 rfl rfl rfl rfl rfl rfl rfl ⟨rfl, rfl, rfl, rfl, rfl⟩ rfl rfl rfl rfl rfl (by kernel_rfl) Try.func6 (by kernel_rfl)
    (of_decide_eq_true (by kernel_rfl)) (by unfold Func.isWrapper; first | (rw [if_pos (by decide +kernel)]; kernel_rfl) | (rw [if_neg (by decide +kernel)]; exact ⟨rfl, rfl⟩))
    (fun os started H enc _ => lifted os started H enc)

theorem stepCuts_holds : Rows.StepCutsSaid := over
end Go.Proofs.Ytjigchaahbbkpab.stepCuts
