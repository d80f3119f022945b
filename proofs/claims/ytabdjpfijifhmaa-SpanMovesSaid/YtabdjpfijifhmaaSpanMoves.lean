/-
  Layer 2 (span), 2.3, 2.5: for every span and number, shifting and mirroring answers as the document says, and the same way leads back. No condition.
-/
import Derived.Test.YtabdjpfijifhmaaSpanD
import Derived.Test.YtabdjpfijifhmaaSpanE
import Derived.WalkKit
import Derived.ProofKit
import Derived.OpenShut
import Derived.ShutString
import Derived.ChangeOld
import Derived.Below
import Derived.Lib.SmallJoins
set_option linter.unusedVariables false
set_option linter.unusedSimpArgs false
namespace Go.Proofs.Ytabdjpfijifhmaa.spanMoves
open Go.ChangeShapes Go.WideShapes Go.ChangeAt Go.RowKit Go.Joins
open Go.ChangeMaps (open_string shut_string)
attribute [local go_sem] GW.cell GW.frozen In.eq_true In.le_true In.ne In.ne' In.ne_add In.ne_add' In.lt_add Upto.le_true Upto.le_add Upto.lt_add okF_true okF_false
set_option maxHeartbeats 2000000 in
theorem walk (a b n : Int) (w : World)  : Calls Try.prog 6 #[.agg #[.int .i64 (a), .int .i64 (b)], .int .i64 n] w fun e w' => e = .returned (.bool true) ∧ Ext w w' := by
  rcases shift_err a b n with ⟨s1, s2⟩ | ⟨s1, s2⟩ <;> rcases mirror_err a b n with ⟨m1, m2⟩ | ⟨m1, m2⟩
  · obtain ⟨k1, k2, k3, k4⟩ := shift_back s1
    obtain ⟨q1, q2, q3, q4⟩ := mirror_back m1
    obtain ⟨l1, l2⟩ := shift_range s1
    go_enter Try.func6, Try.ntmps6
    go_wp2_with (first | (go_at_call 21; (first | refine seq_gw' (shift_c _ _ _ _) ?_ | refine seq_gw (shift_c _ _ _ _) ?_); intro g) | (go_at_call 23; (first | refine seq_gw' (mirror_c _ _ _ _) ?_ | refine seq_gw (mirror_c _ _ _ _) ?_); intro g) | (go_at_call 22; (first | refine seq_gw' (refShift_c _ _ _ _) ?_ | refine seq_gw (refShift_c _ _ _ _) ?_); intro g) | (go_at_call 24; (first | refine seq_gw' (refMirror_c _ _ _ _) ?_ | refine seq_gw (refMirror_c _ _ _ _) ?_); intro g) | (go_at_call 13; (first | refine seq_gw' (live_c _) ?_ | refine seq_gw (live_c _) ?_); intro g))
    all_goals
      go_returns
      refine ⟨by first | rfl | (simp [*]; done), ?_⟩
      repeat (first | exact Ext.refl _ | with_reducible assumption | refine Ext.alloc ?_ _ | refine Ext.drew ?_ | refine Ext.drewN ?_ _ | refine ext_gw ?_ _ | refine Ext.setCell ?_ (by first | (simp; done) | (simp [Upto.le_true, Upto.le_add]; done) | (simp; omega)) _)

  · obtain ⟨k1, k2, k3, k4⟩ := shift_back s1
    obtain ⟨l1, l2⟩ := shift_range s1
    have m3 : (mirrorE a b n == 0) = false := by rcases m2 with h | h <;> simp [h]
    clear m2
    go_enter Try.func6, Try.ntmps6
    go_wp2_with (first | (go_at_call 21; (first | refine seq_gw' (shift_c _ _ _ _) ?_ | refine seq_gw (shift_c _ _ _ _) ?_); intro g) | (go_at_call 23; (first | refine seq_gw' (mirror_c _ _ _ _) ?_ | refine seq_gw (mirror_c _ _ _ _) ?_); intro g) | (go_at_call 22; (first | refine seq_gw' (refShift_c _ _ _ _) ?_ | refine seq_gw (refShift_c _ _ _ _) ?_); intro g) | (go_at_call 24; (first | refine seq_gw' (refMirror_c _ _ _ _) ?_ | refine seq_gw (refMirror_c _ _ _ _) ?_); intro g) | (go_at_call 13; (first | refine seq_gw' (live_c _) ?_ | refine seq_gw (live_c _) ?_); intro g))
    all_goals
      go_returns
      refine ⟨by first | rfl | (simp [*]; done), ?_⟩
      repeat (first | exact Ext.refl _ | with_reducible assumption | refine Ext.alloc ?_ _ | refine Ext.drew ?_ | refine Ext.drewN ?_ _ | refine ext_gw ?_ _ | refine Ext.setCell ?_ (by first | (simp; done) | (simp [Upto.le_true, Upto.le_add]; done) | (simp; omega)) _)

  · obtain ⟨q1, q2, q3, q4⟩ := mirror_back m1
    have s3 : (shiftE a b n == 0) = false := by rcases s2 with h | h <;> simp [h]
    clear s2
    go_enter Try.func6, Try.ntmps6
    go_wp2_with (first | (go_at_call 21; (first | refine seq_gw' (shift_c _ _ _ _) ?_ | refine seq_gw (shift_c _ _ _ _) ?_); intro g) | (go_at_call 23; (first | refine seq_gw' (mirror_c _ _ _ _) ?_ | refine seq_gw (mirror_c _ _ _ _) ?_); intro g) | (go_at_call 22; (first | refine seq_gw' (refShift_c _ _ _ _) ?_ | refine seq_gw (refShift_c _ _ _ _) ?_); intro g) | (go_at_call 24; (first | refine seq_gw' (refMirror_c _ _ _ _) ?_ | refine seq_gw (refMirror_c _ _ _ _) ?_); intro g) | (go_at_call 13; (first | refine seq_gw' (live_c _) ?_ | refine seq_gw (live_c _) ?_); intro g))
    all_goals
      go_returns
      refine ⟨by first | rfl | (simp [*]; done), ?_⟩
      repeat (first | exact Ext.refl _ | with_reducible assumption | refine Ext.alloc ?_ _ | refine Ext.drew ?_ | refine Ext.drewN ?_ _ | refine ext_gw ?_ _ | refine Ext.setCell ?_ (by first | (simp; done) | (simp [Upto.le_true, Upto.le_add]; done) | (simp; omega)) _)

  · have s3 : (shiftE a b n == 0) = false := by rcases s2 with h | h <;> simp [h]
    have m3 : (mirrorE a b n == 0) = false := by rcases m2 with h | h <;> simp [h]
    clear s2 m2
    go_enter Try.func6, Try.ntmps6
    go_wp2_with (first | (go_at_call 21; (first | refine seq_gw' (shift_c _ _ _ _) ?_ | refine seq_gw (shift_c _ _ _ _) ?_); intro g) | (go_at_call 23; (first | refine seq_gw' (mirror_c _ _ _ _) ?_ | refine seq_gw (mirror_c _ _ _ _) ?_); intro g) | (go_at_call 22; (first | refine seq_gw' (refShift_c _ _ _ _) ?_ | refine seq_gw (refShift_c _ _ _ _) ?_); intro g) | (go_at_call 24; (first | refine seq_gw' (refMirror_c _ _ _ _) ?_ | refine seq_gw (refMirror_c _ _ _ _) ?_); intro g) | (go_at_call 13; (first | refine seq_gw' (live_c _) ?_ | refine seq_gw (live_c _) ?_); intro g))
    all_goals
      go_returns
      refine ⟨by first | rfl | (simp [*]; done), ?_⟩
      repeat (first | exact Ext.refl _ | with_reducible assumption | refine Ext.alloc ?_ _ | refine Ext.drew ?_ | refine Ext.drewN ?_ _ | refine ext_gw ?_ _ | refine Ext.setCell ?_ (by first | (simp; done) | (simp [Upto.le_true, Upto.le_add]; done) | (simp; omega)) _)


theorem own : ownKnob Try.prog.godebug = none := by kernel_rfl
theorem laidOut : laidOutB Try.prog = true := by kernel_rfl
set_option maxRecDepth 100000 in
theorem lifted (os : Os) (started : os.Started) (H : Type) (enc : TypeId × Value → H) :
    ReturnsInHanded {} Try.checked os 6 .any (Rows.spanMovesSpec.pre6 enc Try.prog Try.f6 Rows.spanMovesRow.domain false) (Rows.spanMovesSpec.post enc Try.prog Try.f6 false true false false) := by
  refine returnsInHanded_of_change (C := Try.checked) own started (by kernel_rfl) Try.func6
    (ChangeSpec.witness6 (enc := enc) (C := Try.checked) false ⟨#[], #[.agg #[.int .i64 0, .int .i64 0], .int .i64 0], []⟩ 8 (by kernel_rfl) (by kernel_rfl) (by kernel_rfl) (by kernel_rfl)) ?_
  intro W base args ds gs before hval0 hW hcnd _
  have hval : ∀ (j : Nat) t v, Try.f6.params[j]? = some t → args[j]? = some v → Value.okWide Try.prog W .any base t v := hval0
  have hW' := hW
  obtain ⟨p, q, hA0, hV, rfl, hfz, hnd⟩ := hW
  have hA : DataW.TrodAll enc Try.prog W 0 (fun _ => true) true Try.f6.params.toList args.toList ds p := hA0
  rw [Try.params6] at hA hval
  obtain ⟨v0, vs0, d0, ds0, p0, q0, hargs, rfl, rfl, h0, r0⟩ := trodAll_cons hA
  obtain ⟨v1, vs1, d1, ds1, p1, q1, rfl, rfl, rfl, h1, r1⟩ := trodAll_cons r0
  obtain ⟨rfl, rfl, rfl⟩ := trodAll_nil r1
  obtain rfl : args = #[v0, v1] := by cases args; simp_all
  obtain ⟨rfl, rfl⟩ := trodVars_none hV
  have k0 := h0
  have lt0 : ∀ x ∈ p0, x.block < W.heap.size := by obtain ⟨m, hm⟩ := k0; exact DataW.trod_lt m _ _ _ hm
  obtain ⟨c0a, c0b, y0a, y0b, m0, rfl, _, _, hy0a, hy0b⟩ := open_agg2 Try.underlying23 (by kernel_rfl) (by kernel_rfl) (hval 0 23 v0 rfl rfl) h0
  obtain ⟨aa, e0a, _, waa⟩ := DataW.trod_int Try.underlying3 hy0a
  simp at e0a; subst e0a
  obtain ⟨ab, e0b, _, wab⟩ := DataW.trod_int Try.underlying3 hy0b
  simp at e0b; subst e0b
  have k1 := h1
  have lt1 : ∀ x ∈ p1, x.block < W.heap.size := by obtain ⟨m, hm⟩ := k1; exact DataW.trod_lt m _ _ _ hm
  obtain ⟨n, rfl, _, _, wn⟩ := open_int Try.underlying3 (hval 1 3 v1 rfl rfl) h1
  clear hA0 hval0
  refine (walk aa ab n W ).mono fun e W' ⟨he, bel⟩ => ?_
  subst he
  exact ⟨_, rfl, _, _, _, [], _, [], hW', trodAll_mk1 (shut_bool Try.underlying4 _), (trodAll_cons_mk (Below.trod laidOut (by kernel_rfl) (of_decide_eq_true (by kernel_rfl)) k0 bel lt0) (trodAll_cons_mk (Below.trod laidOut (by kernel_rfl) (of_decide_eq_true (by kernel_rfl)) k1 bel lt1) trodAll_mk0)), rfl, bel.frame _, fun h => by cases h⟩

theorem over : Rows.spanMovesRow.holds Try.pinned (OpenSpec.ofChange Rows.spanMovesSpec) :=
  OpenClaim.holds_of_wide 6 Try.f6 rfl rfl rfl rfl rfl rfl rfl ⟨rfl, rfl, rfl, rfl, rfl⟩ rfl rfl rfl rfl rfl (by kernel_rfl) Try.func6 (by kernel_rfl)
    (of_decide_eq_true (by kernel_rfl)) (by unfold Func.isWrapper; first | (rw [if_pos (by decide +kernel)]; kernel_rfl) | (rw [if_neg (by decide +kernel)]; exact ⟨rfl, rfl⟩))
    (fun os started H enc _ => lifted os started H enc)

theorem spanMoves_holds : Rows.SpanMovesSaid := over
end Go.Proofs.Ytabdjpfijifhmaa.spanMoves
