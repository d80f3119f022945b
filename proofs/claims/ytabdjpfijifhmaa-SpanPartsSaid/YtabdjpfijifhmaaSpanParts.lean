/-
  Layer 2 (span), 2.2, 2.5: for every two spans and two ticks, each tick of a span lies either ahead of a tick or from it on, and two spans have together just what both have. No condition.
-/
import Derived.Test.YtabdjpfijifhmaaSpanD
import Derived.WalkKit
import Derived.ProofKit
import Derived.OpenShut
import Derived.ShutString
import Derived.ChangeOld
import Derived.Below
import Derived.Lib.SmallJoins
set_option linter.unusedVariables false
set_option linter.unusedSimpArgs false
namespace Go.Proofs.Ytabdjpfijifhmaa.spanParts
open Go.ChangeShapes Go.WideShapes Go.ChangeAt Go.RowKit Go.Joins
open Go.ChangeMaps (open_string shut_string)
attribute [local go_sem] GW.cell GW.frozen In.eq_true In.le_true In.ne In.ne' In.ne_add In.ne_add' In.lt_add Upto.le_true Upto.le_add Upto.lt_add okF_true okF_false
theorem none_may : mayB 0 0 = false := by decide +kernel
theorem ahead_has (a b t u : Int) : hasB (okF (aheadB a b t) a) (okF (aheadB a b t) (min b t)) u = (hasB a b u && decide (u < t)) := by
  cases h0 : mayB a b
  · simp [aheadB, h0, okF, hasB, none_may]
  · have l := mayB_lt h0
    by_cases h1 : a < t
    · have h2 : mayB a (min b t) = true := mayB_mk (by omega)
      simp only [aheadB, h0, h1, decide_true, Bool.and_true, okF, if_true, hasB, h2, Bool.true_and]
      by_cases x1 : a ≤ u <;> by_cases x2 : u < b <;> by_cases x3 : u < t <;> simp [x1, x2, x3] <;> omega
    · simp only [aheadB, h0, h1, decide_false, Bool.and_false, okF, hasB, none_may, Bool.false_and]
      by_cases x1 : a ≤ u <;> by_cases x2 : u < b <;> by_cases x3 : u < t <;> simp [x1, x2, x3] <;> omega
theorem rest_has (a b t u : Int) : hasB (okF (restB a b t) (max a t)) (okF (restB a b t) b) u = (hasB a b u && decide (u ≥ t)) := by
  cases h0 : mayB a b
  · simp [restB, h0, okF, hasB, none_may]
  · have l := mayB_lt h0
    by_cases h1 : t < b
    · have h2 : mayB (max a t) b = true := mayB_mk (by omega)
      simp only [restB, h0, h1, decide_true, Bool.and_true, okF, if_true, hasB, h2, Bool.true_and]
      by_cases x1 : a ≤ u <;> by_cases x2 : u < b <;> by_cases x3 : t ≤ u <;> simp [x1, x2, x3] <;> omega
    · simp only [restB, h0, h1, decide_false, Bool.and_false, okF, hasB, none_may, Bool.false_and]
      by_cases x1 : a ≤ u <;> by_cases x2 : u < b <;> by_cases x3 : t ≤ u <;> simp [x1, x2, x3] <;> omega
theorem meet_has (a b c d u : Int) : hasB (okF (meetB a b c d) (max a c)) (okF (meetB a b c d) (min b d)) u = (hasB a b u && hasB c d u) := by
  cases h0 : mayB a b
  · simp [meetB, h0, okF, hasB, none_may]
  cases h1 : mayB c d
  · simp [meetB, h1, okF, hasB, none_may]
  have l := mayB_lt h0
  have m := mayB_lt h1
  by_cases h2 : max a c < min b d
  · have h3 : mayB (max a c) (min b d) = true := mayB_mk (by omega)
    simp only [meetB, h0, h1, h2, decide_true, Bool.and_true, okF, if_true, hasB, h3, Bool.true_and]
    by_cases x1 : a ≤ u <;> by_cases x2 : u < b <;> by_cases x3 : c ≤ u <;> by_cases x4 : u < d <;> simp [x1, x2, x3, x4] <;> omega
  · simp only [meetB, h0, h1, h2, decide_false, Bool.and_false, okF, hasB, none_may, Bool.false_and]
    by_cases x1 : a ≤ u <;> by_cases x2 : u < b <;> by_cases x3 : c ≤ u <;> by_cases x4 : u < d <;> simp [x1, x2, x3, x4] <;> omega
theorem has_v (a b t : Int) (v : Bool) (w : World) (hv : hasB a b t = v) : Calls Try.prog 11 #[.agg #[.int .i64 (a), .int .i64 (b)], .int .i64 t] w fun e w' => e = .returned (.bool v) ∧ Ext w w' := hv ▸ has_c a b t w
set_option maxHeartbeats 8000000 in
theorem walk (a b c d t u : Int) (w : World)  : Calls Try.prog 5 #[.agg #[.int .i64 (a), .int .i64 (b)], .agg #[.int .i64 (c), .int .i64 (d)], .int .i64 t, .int .i64 u] w fun e w' => e = .returned (.bool true) ∧ Ext w w' := by
  have f1 := ahead_has a b t u
  have f2 := rest_has a b t u
  have f3 := meet_has a b c d u
  by_cases hu : u < t
  · have hu' : decide (u ≥ t) = false := by simp; omega
    have hu2 : decide (t ≤ u) = false := by simp; omega
    have hu3 : decide (u < t) = true := by simp [hu]
    clear hu
    cases hA : hasB a b u <;> cases hC : hasB c d u <;> simp only [hA, hC, hu', hu3, Bool.and_true, Bool.and_false, Bool.true_and, Bool.false_and, Bool.and_self] at f1 f2 f3
    all_goals
      go_enter Try.func5, Try.ntmps5
      go_wp2_with (first | (go_at_call 17; (first | refine seq_gw' (ahead_c _ _ _ _) ?_ | refine seq_gw (ahead_c _ _ _ _) ?_); intro g) | (go_at_call 19; (first | refine seq_gw' (rest_c _ _ _ _) ?_ | refine seq_gw (rest_c _ _ _ _) ?_); intro g) | (go_at_call 15; (first | refine seq_gw' (meet_c _ _ _ _ _) ?_ | refine seq_gw (meet_c _ _ _ _ _) ?_); intro g) | (go_at_call 11; (first | refine seq_gw' (has_c _ _ _ _) ?_ | refine seq_gw (has_c _ _ _ _) ?_); intro g) | (go_at_call 13; (first | refine seq_gw' (live_c _) ?_ | refine seq_gw (live_c _) ?_); intro g))
      refine wp_region_gw (by kernel_rfl) (by kernel_rfl) ?_
      repeat (go_big_quiet_step ((first | (go_at_call 11; exact quiet_gw (has_v _ _ _ _ _ (by assumption))) | (go_at_call 13; exact quiet_gw (live_c _)))))
      refine wpQuiet_nil ?_
      intro g
      go_wp2_with (first | (go_at_call 17; (first | refine seq_gw' (ahead_c _ _ _ _) ?_ | refine seq_gw (ahead_c _ _ _ _) ?_); intro g) | (go_at_call 19; (first | refine seq_gw' (rest_c _ _ _ _) ?_ | refine seq_gw (rest_c _ _ _ _) ?_); intro g) | (go_at_call 15; (first | refine seq_gw' (meet_c _ _ _ _ _) ?_ | refine seq_gw (meet_c _ _ _ _ _) ?_); intro g) | (go_at_call 11; (first | refine seq_gw' (has_c _ _ _ _) ?_ | refine seq_gw (has_c _ _ _ _) ?_); intro g) | (go_at_call 13; (first | refine seq_gw' (live_c _) ?_ | refine seq_gw (live_c _) ?_); intro g))
      refine wp_region_gw (by kernel_rfl) (by kernel_rfl) ?_
      repeat (go_big_quiet_step ((first | (go_at_call 11; exact quiet_gw (has_v _ _ _ _ _ (by assumption))) | (go_at_call 13; exact quiet_gw (live_c _)))))
      refine wpQuiet_nil ?_
      intro g
      go_wp2_with (first | (go_at_call 17; (first | refine seq_gw' (ahead_c _ _ _ _) ?_ | refine seq_gw (ahead_c _ _ _ _) ?_); intro g) | (go_at_call 19; (first | refine seq_gw' (rest_c _ _ _ _) ?_ | refine seq_gw (rest_c _ _ _ _) ?_); intro g) | (go_at_call 15; (first | refine seq_gw' (meet_c _ _ _ _ _) ?_ | refine seq_gw (meet_c _ _ _ _ _) ?_); intro g) | (go_at_call 11; (first | refine seq_gw' (has_c _ _ _ _) ?_ | refine seq_gw (has_c _ _ _ _) ?_); intro g) | (go_at_call 13; (first | refine seq_gw' (live_c _) ?_ | refine seq_gw (live_c _) ?_); intro g))
      all_goals
        go_returns
        refine ⟨by first | rfl | (simp [*]; done), ?_⟩
        repeat (first | exact Ext.refl _ | with_reducible assumption | refine Ext.alloc ?_ _ | refine Ext.drew ?_ | refine Ext.drewN ?_ _ | refine ext_gw ?_ _ | refine Ext.setCell ?_ (by first | (simp; done) | (simp [Upto.le_true, Upto.le_add]; done) | (simp; omega)) _)

  · have hu' : decide (u ≥ t) = true := by simp; omega
    have hu2 : decide (t ≤ u) = true := by simp; omega
    have hu3 : decide (u < t) = false := by simp; omega
    clear hu
    cases hA : hasB a b u <;> cases hC : hasB c d u <;> simp only [hA, hC, hu', hu3, Bool.and_true, Bool.and_false, Bool.true_and, Bool.false_and, Bool.and_self] at f1 f2 f3
    all_goals
      go_enter Try.func5, Try.ntmps5
      go_wp2_with (first | (go_at_call 17; (first | refine seq_gw' (ahead_c _ _ _ _) ?_ | refine seq_gw (ahead_c _ _ _ _) ?_); intro g) | (go_at_call 19; (first | refine seq_gw' (rest_c _ _ _ _) ?_ | refine seq_gw (rest_c _ _ _ _) ?_); intro g) | (go_at_call 15; (first | refine seq_gw' (meet_c _ _ _ _ _) ?_ | refine seq_gw (meet_c _ _ _ _ _) ?_); intro g) | (go_at_call 11; (first | refine seq_gw' (has_c _ _ _ _) ?_ | refine seq_gw (has_c _ _ _ _) ?_); intro g) | (go_at_call 13; (first | refine seq_gw' (live_c _) ?_ | refine seq_gw (live_c _) ?_); intro g))
      refine wp_region_gw (by kernel_rfl) (by kernel_rfl) ?_
      repeat (go_big_quiet_step ((first | (go_at_call 11; exact quiet_gw (has_v _ _ _ _ _ (by assumption))) | (go_at_call 13; exact quiet_gw (live_c _)))))
      refine wpQuiet_nil ?_
      intro g
      go_wp2_with (first | (go_at_call 17; (first | refine seq_gw' (ahead_c _ _ _ _) ?_ | refine seq_gw (ahead_c _ _ _ _) ?_); intro g) | (go_at_call 19; (first | refine seq_gw' (rest_c _ _ _ _) ?_ | refine seq_gw (rest_c _ _ _ _) ?_); intro g) | (go_at_call 15; (first | refine seq_gw' (meet_c _ _ _ _ _) ?_ | refine seq_gw (meet_c _ _ _ _ _) ?_); intro g) | (go_at_call 11; (first | refine seq_gw' (has_c _ _ _ _) ?_ | refine seq_gw (has_c _ _ _ _) ?_); intro g) | (go_at_call 13; (first | refine seq_gw' (live_c _) ?_ | refine seq_gw (live_c _) ?_); intro g))
      refine wp_region_gw (by kernel_rfl) (by kernel_rfl) ?_
      repeat (go_big_quiet_step ((first | (go_at_call 11; exact quiet_gw (has_v _ _ _ _ _ (by assumption))) | (go_at_call 13; exact quiet_gw (live_c _)))))
      refine wpQuiet_nil ?_
      intro g
      go_wp2_with (first | (go_at_call 17; (first | refine seq_gw' (ahead_c _ _ _ _) ?_ | refine seq_gw (ahead_c _ _ _ _) ?_); intro g) | (go_at_call 19; (first | refine seq_gw' (rest_c _ _ _ _) ?_ | refine seq_gw (rest_c _ _ _ _) ?_); intro g) | (go_at_call 15; (first | refine seq_gw' (meet_c _ _ _ _ _) ?_ | refine seq_gw (meet_c _ _ _ _ _) ?_); intro g) | (go_at_call 11; (first | refine seq_gw' (has_c _ _ _ _) ?_ | refine seq_gw (has_c _ _ _ _) ?_); intro g) | (go_at_call 13; (first | refine seq_gw' (live_c _) ?_ | refine seq_gw (live_c _) ?_); intro g))
      all_goals
        go_returns
        refine ⟨by first | rfl | (simp [*]; done), ?_⟩
        repeat (first | exact Ext.refl _ | with_reducible assumption | refine Ext.alloc ?_ _ | refine Ext.drew ?_ | refine Ext.drewN ?_ _ | refine ext_gw ?_ _ | refine Ext.setCell ?_ (by first | (simp; done) | (simp [Upto.le_true, Upto.le_add]; done) | (simp; omega)) _)


theorem own : ownKnob Try.prog.godebug = none := by kernel_rfl
theorem laidOut : laidOutB Try.prog = true := by kernel_rfl
set_option maxRecDepth 100000 in
theorem lifted (os : Os) (started : os.Started) (H : Type) (enc : TypeId × Value → H) :
    ReturnsInHanded {} Try.checked os 5 .any (Rows.spanPartsSpec.pre6 enc Try.prog Try.f5 Rows.spanPartsRow.domain false) (Rows.spanPartsSpec.post enc Try.prog Try.f5 false true false false) := by
  refine returnsInHanded_of_change (C := Try.checked) own started (by kernel_rfl) Try.func5
    (ChangeSpec.witness6 (enc := enc) (C := Try.checked) false ⟨#[], #[.agg #[.int .i64 0, .int .i64 0], .agg #[.int .i64 0, .int .i64 0], .int .i64 0, .int .i64 0], []⟩ 8 (by kernel_rfl) (by kernel_rfl) (by kernel_rfl) (by kernel_rfl)) ?_
  intro W base args ds gs before hval0 hW hcnd _
  have hval : ∀ (j : Nat) t v, Try.f5.params[j]? = some t → args[j]? = some v → Value.okWide Try.prog W .any base t v := hval0
  have hW' := hW
  obtain ⟨p, q, hA0, hV, rfl, hfz, hnd⟩ := hW
  have hA : DataW.TrodAll enc Try.prog W 0 (fun _ => true) true Try.f5.params.toList args.toList ds p := hA0
  rw [Try.params5] at hA hval
  obtain ⟨v0, vs0, d0, ds0, p0, q0, hargs, rfl, rfl, h0, r0⟩ := trodAll_cons hA
  obtain ⟨v1, vs1, d1, ds1, p1, q1, rfl, rfl, rfl, h1, r1⟩ := trodAll_cons r0
  obtain ⟨v2, vs2, d2, ds2, p2, q2, rfl, rfl, rfl, h2, r2⟩ := trodAll_cons r1
  obtain ⟨v3, vs3, d3, ds3, p3, q3, rfl, rfl, rfl, h3, r3⟩ := trodAll_cons r2
  obtain ⟨rfl, rfl, rfl⟩ := trodAll_nil r3
  obtain rfl : args = #[v0, v1, v2, v3] := by cases args; simp_all
  obtain ⟨rfl, rfl⟩ := trodVars_none hV
  have k0 := h0
  have lt0 : ∀ x ∈ p0, x.block < W.heap.size := by obtain ⟨m, hm⟩ := k0; exact DataW.trod_lt m _ _ _ hm
  obtain ⟨c0a, c0b, y0a, y0b, m0, rfl, _, _, hy0a, hy0b⟩ := open_agg2 Try.underlying23 (by kernel_rfl) (by kernel_rfl) (hval 0 23 v0 rfl rfl) h0
  obtain ⟨aa, e0a, _, waa⟩ := DataW.trod_int Try.underlying3 hy0a
  simp at e0a; subst e0a
  obtain ⟨ab, e0b, _, wab⟩ := DataW.trod_int Try.underlying3 hy0b
  simp at e0b; subst e0b
  have k1 := h1
  have lt1 : ∀ x ∈ p1, x.block < W.heap.size := by obtain ⟨m, hm⟩ := k1; exact DataW.trod_lt m _ _ _ hm
  obtain ⟨c1a, c1b, y1a, y1b, m1, rfl, _, _, hy1a, hy1b⟩ := open_agg2 Try.underlying23 (by kernel_rfl) (by kernel_rfl) (hval 1 23 v1 rfl rfl) h1
  obtain ⟨ca, e1a, _, wca⟩ := DataW.trod_int Try.underlying3 hy1a
  simp at e1a; subst e1a
  obtain ⟨cb, e1b, _, wcb⟩ := DataW.trod_int Try.underlying3 hy1b
  simp at e1b; subst e1b
  have k2 := h2
  have lt2 : ∀ x ∈ p2, x.block < W.heap.size := by obtain ⟨m, hm⟩ := k2; exact DataW.trod_lt m _ _ _ hm
  obtain ⟨t, rfl, _, _, wt⟩ := open_int Try.underlying3 (hval 2 3 v2 rfl rfl) h2
  have k3 := h3
  have lt3 : ∀ x ∈ p3, x.block < W.heap.size := by obtain ⟨m, hm⟩ := k3; exact DataW.trod_lt m _ _ _ hm
  obtain ⟨u, rfl, _, _, wu⟩ := open_int Try.underlying3 (hval 3 3 v3 rfl rfl) h3
  clear hA0 hval0
  refine (walk aa ab ca cb t u W ).mono fun e W' ⟨he, bel⟩ => ?_
  subst he
  exact ⟨_, rfl, _, _, _, [], _, [], hW', trodAll_mk1 (shut_bool Try.underlying4 _), (trodAll_cons_mk (Below.trod laidOut (by kernel_rfl) (of_decide_eq_true (by kernel_rfl)) k0 bel lt0) (trodAll_cons_mk (Below.trod laidOut (by kernel_rfl) (of_decide_eq_true (by kernel_rfl)) k1 bel lt1) (trodAll_cons_mk (Below.trod laidOut (by kernel_rfl) (of_decide_eq_true (by kernel_rfl)) k2 bel lt2) (trodAll_cons_mk (Below.trod laidOut (by kernel_rfl) (of_decide_eq_true (by kernel_rfl)) k3 bel lt3) trodAll_mk0)))), rfl, bel.frame _, fun h => by cases h⟩

theorem over : Rows.spanPartsRow.holds Try.pinned (OpenSpec.ofChange Rows.spanPartsSpec) :=
  OpenClaim.holds_of_wide 5 Try.f5 rfl rfl rfl rfl rfl rfl rfl ⟨rfl, rfl, rfl, rfl, rfl⟩ rfl rfl rfl rfl rfl (by kernel_rfl) Try.func5 (by kernel_rfl)
    (of_decide_eq_true (by kernel_rfl)) (by unfold Func.isWrapper; first | (rw [if_pos (by decide +kernel)]; kernel_rfl) | (rw [if_neg (by decide +kernel)]; exact ⟨rfl, rfl⟩))
    (fun os started H enc _ => lifted os started H enc)

theorem spanParts_holds : Rows.SpanPartsSaid := over
end Go.Proofs.Ytabdjpfijifhmaa.spanParts
