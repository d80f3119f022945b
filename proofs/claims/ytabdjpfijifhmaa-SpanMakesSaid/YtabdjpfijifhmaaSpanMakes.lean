/-
  Layer 2 (span), 2.1: for every two numbers and tick, making a span and asking which ticks it has answers as the document says. No condition.
-/
import Derived.Test.YtabdjpfijifhmaaSpanD
import Derived.WalkKit
import Derived.ProofKit
import Derived.OpenShut
import Derived.ShutString
import Derived.ChangeOld
import Derived.Below
import Derived.Lib.SmallJoins
set_option linter.unusedVariables false
set_option linter.unusedSimpArgs false
namespace Go.Proofs.Ytabdjpfijifhmaa.spanMakes
open Go.ChangeShapes Go.WideShapes Go.ChangeAt Go.RowKit Go.Joins
open Go.ChangeMaps (open_string shut_string)
attribute [local go_sem] GW.cell GW.frozen In.eq_true In.le_true In.ne In.ne' In.ne_add In.ne_add' In.lt_add Upto.le_true Upto.le_add Upto.lt_add okF_true okF_false
set_option maxHeartbeats 2000000 in
theorem walk (a b t : Int) (w : World) (wa : (Lit.int .i64 a).wf = true) (wb : (Lit.int .i64 b).wf = true) : Calls Try.prog 3 #[.int .i64 a, .int .i64 b, .int .i64 t] w fun e w' => e = .returned (.bool true) ∧ Ext w w' := by
  cases h0 : mayB a b
  · have hE : (mkE a b == 0) = false := by rcases mkE_no h0 with h | h <;> simp [h]
    have hE' : (!(mkE a b == 0)) = true := by simp [hE]
    go_enter Try.func3, Try.ntmps3
    go_wp2_with (first | (go_at_call 8; (first | refine seq_gw' (make_c _ _ _) ?_ | refine seq_gw (make_c _ _ _) ?_); intro g) | (go_at_call 10; (first | refine seq_gw' (may_c _ _ _) ?_ | refine seq_gw (may_c _ _ _) ?_); intro g) | (go_at_call 11; (first | refine seq_gw' (has_c _ _ _ _) ?_ | refine seq_gw (has_c _ _ _ _) ?_); intro g) | (go_at_call 14; (first | refine seq_gw' (length_c _ _ _) ?_ | refine seq_gw (length_c _ _ _) ?_); intro g) | (go_at_call 9; (first | refine seq_gw' (refMake_c _ _ _) ?_ | refine seq_gw (refMake_c _ _ _) ?_); intro g) | (go_at_call 12; (first | refine seq_gw' (refHas_c _ _ _ _) ?_ | refine seq_gw (refHas_c _ _ _ _) ?_); intro g) | (go_at_call 13; (first | refine seq_gw' (live_c _) ?_ | refine seq_gw (live_c _) ?_); intro g))
    refine wp_region_gw (by kernel_rfl) (by kernel_rfl) ?_
    repeat (go_big_quiet_step ((first | (go_at_call 8; exact quiet_gw (make_c _ _ _)) | (go_at_call 10; exact quiet_gw (may_c _ _ _)) | (go_at_call 11; exact quiet_gw (has_c _ _ _ _)) | (go_at_call 14; exact quiet_gw (length_c _ _ _)) | (go_at_call 9; exact quiet_gw (refMake_c _ _ _)) | (go_at_call 12; exact quiet_gw (refHas_c _ _ _ _)) | (go_at_call 13; exact quiet_gw (live_c _)))))
    refine wpQuiet_nil ?_
    intro g
    go_wp2_with (first | (go_at_call 8; (first | refine seq_gw' (make_c _ _ _) ?_ | refine seq_gw (make_c _ _ _) ?_); intro g) | (go_at_call 10; (first | refine seq_gw' (may_c _ _ _) ?_ | refine seq_gw (may_c _ _ _) ?_); intro g) | (go_at_call 11; (first | refine seq_gw' (has_c _ _ _ _) ?_ | refine seq_gw (has_c _ _ _ _) ?_); intro g) | (go_at_call 14; (first | refine seq_gw' (length_c _ _ _) ?_ | refine seq_gw (length_c _ _ _) ?_); intro g) | (go_at_call 9; (first | refine seq_gw' (refMake_c _ _ _) ?_ | refine seq_gw (refMake_c _ _ _) ?_); intro g) | (go_at_call 12; (first | refine seq_gw' (refHas_c _ _ _ _) ?_ | refine seq_gw (refHas_c _ _ _ _) ?_); intro g) | (go_at_call 13; (first | refine seq_gw' (live_c _) ?_ | refine seq_gw (live_c _) ?_); intro g))
    all_goals
      go_returns
      refine ⟨by first | rfl | (simp [*]; done), ?_⟩
      repeat (first | exact Ext.refl _ | with_reducible assumption | refine Ext.alloc ?_ _ | refine Ext.drew ?_ | refine Ext.drewN ?_ _ | refine ext_gw ?_ _ | refine Ext.setCell ?_ (by first | (simp; done) | (simp [Upto.le_true, Upto.le_add]; done) | (simp; omega)) _)

  obtain ⟨l1, l2, l3, l4, l5⟩ := mayB_lt h0
  have hE := mkE_yes h0
  go_enter Try.func3, Try.ntmps3
  go_wp2_with (first | (go_at_call 8; (first | refine seq_gw' (make_c _ _ _) ?_ | refine seq_gw (make_c _ _ _) ?_); intro g) | (go_at_call 10; (first | refine seq_gw' (may_c _ _ _) ?_ | refine seq_gw (may_c _ _ _) ?_); intro g) | (go_at_call 11; (first | refine seq_gw' (has_c _ _ _ _) ?_ | refine seq_gw (has_c _ _ _ _) ?_); intro g) | (go_at_call 14; (first | refine seq_gw' (length_c _ _ _) ?_ | refine seq_gw (length_c _ _ _) ?_); intro g) | (go_at_call 9; (first | refine seq_gw' (refMake_c _ _ _) ?_ | refine seq_gw (refMake_c _ _ _) ?_); intro g) | (go_at_call 12; (first | refine seq_gw' (refHas_c _ _ _ _) ?_ | refine seq_gw (refHas_c _ _ _ _) ?_); intro g) | (go_at_call 13; (first | refine seq_gw' (live_c _) ?_ | refine seq_gw (live_c _) ?_); intro g))
  refine wp_region_gw (by kernel_rfl) (by kernel_rfl) ?_
  repeat (go_big_quiet_step ((first | (go_at_call 8; exact quiet_gw (make_c _ _ _)) | (go_at_call 10; exact quiet_gw (may_c _ _ _)) | (go_at_call 11; exact quiet_gw (has_c _ _ _ _)) | (go_at_call 14; exact quiet_gw (length_c _ _ _)) | (go_at_call 9; exact quiet_gw (refMake_c _ _ _)) | (go_at_call 12; exact quiet_gw (refHas_c _ _ _ _)) | (go_at_call 13; exact quiet_gw (live_c _)))))
  refine wpQuiet_nil ?_
  intro g
  go_wp2_with (first | (go_at_call 8; (first | refine seq_gw' (make_c _ _ _) ?_ | refine seq_gw (make_c _ _ _) ?_); intro g) | (go_at_call 10; (first | refine seq_gw' (may_c _ _ _) ?_ | refine seq_gw (may_c _ _ _) ?_); intro g) | (go_at_call 11; (first | refine seq_gw' (has_c _ _ _ _) ?_ | refine seq_gw (has_c _ _ _ _) ?_); intro g) | (go_at_call 14; (first | refine seq_gw' (length_c _ _ _) ?_ | refine seq_gw (length_c _ _ _) ?_); intro g) | (go_at_call 9; (first | refine seq_gw' (refMake_c _ _ _) ?_ | refine seq_gw (refMake_c _ _ _) ?_); intro g) | (go_at_call 12; (first | refine seq_gw' (refHas_c _ _ _ _) ?_ | refine seq_gw (refHas_c _ _ _ _) ?_); intro g) | (go_at_call 13; (first | refine seq_gw' (live_c _) ?_ | refine seq_gw (live_c _) ?_); intro g))
  all_goals
    go_returns
    refine ⟨by first | rfl | (simp [*]; done), ?_⟩
    repeat (first | exact Ext.refl _ | with_reducible assumption | refine Ext.alloc ?_ _ | refine Ext.drew ?_ | refine Ext.drewN ?_ _ | refine ext_gw ?_ _ | refine Ext.setCell ?_ (by first | (simp; done) | (simp [Upto.le_true, Upto.le_add]; done) | (simp; omega)) _)


theorem own : ownKnob Try.prog.godebug = none := by kernel_rfl
theorem laidOut : laidOutB Try.prog = true := by kernel_rfl
set_option maxRecDepth 100000 in
theorem lifted (os : Os) (started : os.Started) (H : Type) (enc : TypeId × Value → H) :
    ReturnsInHanded {} Try.checked os 3 .any (Rows.spanMakesSpec.pre6 enc Try.prog Try.f3 Rows.spanMakesRow.domain false) (Rows.spanMakesSpec.post enc Try.prog Try.f3 false true false false) := by
  refine returnsInHanded_of_change (C := Try.checked) own started (by kernel_rfl) Try.func3
    (ChangeSpec.witness6 (enc := enc) (C := Try.checked) false ⟨#[], #[.int .i64 0, .int .i64 0, .int .i64 0], []⟩ 8 (by kernel_rfl) (by kernel_rfl) (by kernel_rfl) (by kernel_rfl)) ?_
  intro W base args ds gs before hval0 hW hcnd _
  have hval : ∀ (j : Nat) t v, Try.f3.params[j]? = some t → args[j]? = some v → Value.okWide Try.prog W .any base t v := hval0
  have hW' := hW
  obtain ⟨p, q, hA0, hV, rfl, hfz, hnd⟩ := hW
  have hA : DataW.TrodAll enc Try.prog W 0 (fun _ => true) true Try.f3.params.toList args.toList ds p := hA0
  rw [Try.params3] at hA hval
  obtain ⟨v0, vs0, d0, ds0, p0, q0, hargs, rfl, rfl, h0, r0⟩ := trodAll_cons hA
  obtain ⟨v1, vs1, d1, ds1, p1, q1, rfl, rfl, rfl, h1, r1⟩ := trodAll_cons r0
  obtain ⟨v2, vs2, d2, ds2, p2, q2, rfl, rfl, rfl, h2, r2⟩ := trodAll_cons r1
  obtain ⟨rfl, rfl, rfl⟩ := trodAll_nil r2
  obtain rfl : args = #[v0, v1, v2] := by cases args; simp_all
  obtain ⟨rfl, rfl⟩ := trodVars_none hV
  have k0 := h0
  have lt0 : ∀ x ∈ p0, x.block < W.heap.size := by obtain ⟨m, hm⟩ := k0; exact DataW.trod_lt m _ _ _ hm
  obtain ⟨a, rfl, _, _, wa⟩ := open_int Try.underlying3 (hval 0 3 v0 rfl rfl) h0
  have k1 := h1
  have lt1 : ∀ x ∈ p1, x.block < W.heap.size := by obtain ⟨m, hm⟩ := k1; exact DataW.trod_lt m _ _ _ hm
  obtain ⟨b, rfl, _, _, wb⟩ := open_int Try.underlying3 (hval 1 3 v1 rfl rfl) h1
  have k2 := h2
  have lt2 : ∀ x ∈ p2, x.block < W.heap.size := by obtain ⟨m, hm⟩ := k2; exact DataW.trod_lt m _ _ _ hm
  obtain ⟨t, rfl, _, _, wt⟩ := open_int Try.underlying3 (hval 2 3 v2 rfl rfl) h2
  clear hA0 hval0
  refine (walk a b t W wa wb).mono fun e W' ⟨he, bel⟩ => ?_
  subst he
  exact ⟨_, rfl, _, _, _, [], _, [], hW', trodAll_mk1 (shut_bool Try.underlying4 _), (trodAll_cons_mk (Below.trod laidOut (by kernel_rfl) (of_decide_eq_true (by kernel_rfl)) k0 bel lt0) (trodAll_cons_mk (Below.trod laidOut (by kernel_rfl) (of_decide_eq_true (by kernel_rfl)) k1 bel lt1) (trodAll_cons_mk (Below.trod laidOut (by kernel_rfl) (of_decide_eq_true (by kernel_rfl)) k2 bel lt2) trodAll_mk0))), rfl, bel.frame _, fun h => by cases h⟩

theorem over : Rows.spanMakesRow.holds Try.pinned (OpenSpec.ofChange Rows.spanMakesSpec) :=
  OpenClaim.holds_of_wide 3 Try.f3 rfl rfl rfl rfl rfl rfl rfl ⟨rfl, rfl, rfl, rfl, rfl⟩ rfl rfl rfl rfl rfl (by kernel_rfl) Try.func3 (by kernel_rfl)
    (of_decide_eq_true (by kernel_rfl)) (by unfold Func.isWrapper; first | (rw [if_pos (by decide +kernel)]; kernel_rfl) | (rw [if_neg (by decide +kernel)]; exact ⟨rfl, rfl⟩))
    (fun os started H enc _ => lifted os started H enc)

theorem spanMakes_holds : Rows.SpanMakesSaid := over
end Go.Proofs.Ytabdjpfijifhmaa.spanMakes
