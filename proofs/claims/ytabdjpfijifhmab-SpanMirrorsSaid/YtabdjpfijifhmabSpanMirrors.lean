/-
  Layer 2 (span), 2.5: for every two spans and number about which they are mirrored, mirrored spans stand as the spans do, with beginnings for ends. No condition.
-/
import Derived.Test.YtabdjpfijifhmabSpanD
import Derived.Test.YtabdjpfijifhmabSpanF
import Derived.WalkKit
import Derived.ProofKit
import Derived.OpenShut
import Derived.ShutString
import Derived.ChangeOld
import Derived.Below
import Derived.Lib.SmallJoins
set_option linter.unusedVariables false
set_option linter.unusedSimpArgs false
namespace Go.Proofs.Ytabdjpfijifhmab.spanMirrors
open Go.ChangeShapes Go.WideShapes Go.ChangeAt Go.RowKit Go.Joins
open Go.ChangeMaps (open_string shut_string)
attribute [local go_sem] GW.cell GW.frozen In.eq_true In.le_true In.ne In.ne' In.ne_add In.ne_add' In.lt_add Upto.le_true Upto.le_add Upto.lt_add okF_true okF_false
set_option maxHeartbeats 8000000 in
theorem walk (a b c d s : Int) (w : World)  : Calls Try.prog 3 #[.agg #[.int .i64 (a), .int .i64 (b)], .agg #[.int .i64 (c), .int .i64 (d)], .int .i64 s] w fun e w' => e = .returned (.bool true) ∧ Ext w w' := by
  rcases mirror_err a b s with ⟨s1, s2⟩ | ⟨s1, s2⟩
  rotate_left
  · have s3 : (mirrorE a b s == 0) = false := by rcases s2 with h | h <;> simp [h]
    clear s2
    go_enter Try.func3, Try.ntmps3
    go_wp2_with (first | (go_at_call 5; (first | refine seq_gw' (mirror_c _ _ _ _) ?_ | refine seq_gw (mirror_c _ _ _ _) ?_); intro g) | (go_at_call 7; (first | refine seq_gw' (relate_c _ _ _ _ _) ?_ | refine seq_gw (relate_c _ _ _ _ _) ?_); intro g) | (go_at_call 6; (first | refine seq_gw' (live_c _) ?_ | refine seq_gw (live_c _) ?_); intro g))
    all_goals
      go_returns
      refine ⟨by first | rfl | (simp [*]; done), ?_⟩
      repeat (first | exact Ext.refl _ | with_reducible assumption | refine Ext.alloc ?_ _ | refine Ext.drew ?_ | refine Ext.drewN ?_ _ | refine ext_gw ?_ _ | refine Ext.setCell ?_ (by first | (simp; done) | (simp [Upto.le_true, Upto.le_add]; done) | (simp; omega)) _)

  rcases mirror_err c d s with ⟨m1, m2⟩ | ⟨m1, m2⟩
  rotate_left
  · have m3 : (mirrorE c d s == 0) = false := by rcases m2 with h | h <;> simp [h]
    clear m2
    go_enter Try.func3, Try.ntmps3
    go_wp2_with (first | (go_at_call 5; (first | refine seq_gw' (mirror_c _ _ _ _) ?_ | refine seq_gw (mirror_c _ _ _ _) ?_); intro g) | (go_at_call 7; (first | refine seq_gw' (relate_c _ _ _ _ _) ?_ | refine seq_gw (relate_c _ _ _ _ _) ?_); intro g) | (go_at_call 6; (first | refine seq_gw' (live_c _) ?_ | refine seq_gw (live_c _) ?_); intro g))
    all_goals
      go_returns
      refine ⟨by first | rfl | (simp [*]; done), ?_⟩
      repeat (first | exact Ext.refl _ | with_reducible assumption | refine Ext.alloc ?_ _ | refine Ext.drew ?_ | refine Ext.drewN ?_ _ | refine ext_gw ?_ _ | refine Ext.setCell ?_ (by first | (simp; done) | (simp [Upto.le_true, Upto.le_add]; done) | (simp; omega)) _)

  obtain ⟨k1, k2⟩ := mirror_rel s1 m1
  obtain ⟨r1, r2⟩ := relV_range k1
  clear k1
  have hn : relV a b c d = 1 ∨ relV a b c d = 2 ∨ relV a b c d = 3 ∨ relV a b c d = 4 ∨ relV a b c d = 5 ∨ relV a b c d = 6 ∨ relV a b c d = 7 ∨ relV a b c d = 8 ∨ relV a b c d = 9 ∨ relV a b c d = 10 ∨ relV a b c d = 11 ∨ relV a b c d = 12 ∨ relV a b c d = 13 := by omega
  clear r1 r2
  rcases hn with h | h | h | h | h | h | h | h | h | h | h | h | h
  all_goals
    rw [h] at k2
    simp only [mirrored, Int.reduceEq, if_true, if_false] at k2
    go_enter Try.func3, Try.ntmps3
    go_wp2_with (first | (go_at_call 5; (first | refine seq_gw' (mirror_c _ _ _ _) ?_ | refine seq_gw (mirror_c _ _ _ _) ?_); intro g) | (go_at_call 7; (first | refine seq_gw' (relate_c _ _ _ _ _) ?_ | refine seq_gw (relate_c _ _ _ _ _) ?_); intro g) | (go_at_call 6; (first | refine seq_gw' (live_c _) ?_ | refine seq_gw (live_c _) ?_); intro g))
    all_goals
      go_returns
      refine ⟨by first | rfl | (simp [*]; done), ?_⟩
      repeat (first | exact Ext.refl _ | with_reducible assumption | refine Ext.alloc ?_ _ | refine Ext.drew ?_ | refine Ext.drewN ?_ _ | refine ext_gw ?_ _ | refine Ext.setCell ?_ (by first | (simp; done) | (simp [Upto.le_true, Upto.le_add]; done) | (simp; omega)) _)


theorem own : ownKnob Try.prog.godebug = none := by kernel_rfl
theorem laidOut : laidOutB Try.prog = true := by kernel_rfl
set_option maxRecDepth 100000 in
theorem lifted (os : Os) (started : os.Started) (H : Type) (enc : TypeId × Value → H) :
    ReturnsInHanded {} Try.checked os 3 .any (Rows.spanMirrorsSpec.pre6 enc Try.prog Try.f3 Rows.spanMirrorsRow.domain false) (Rows.spanMirrorsSpec.post enc Try.prog Try.f3 false true false false) := by
  refine returnsInHanded_of_change (C := Try.checked) own started (by kernel_rfl) Try.func3
    (ChangeSpec.witness6 (enc := enc) (C := Try.checked) false ⟨#[], #[.agg #[.int .i64 0, .int .i64 0], .agg #[.int .i64 0, .int .i64 0], .int .i64 0], []⟩ 8 (by kernel_rfl) (by kernel_rfl) (by kernel_rfl) (by kernel_rfl)) ?_
  intro W base args ds gs before hval0 hW hcnd _
  have hval : ∀ (j : Nat) t v, Try.f3.params[j]? = some t → args[j]? = some v → Value.okWide Try.prog W .any base t v := hval0
  have hW' := hW
  obtain ⟨p, q, hA0, hV, rfl, hfz, hnd⟩ := hW
  have hA : DataW.TrodAll enc Try.prog W 0 (fun _ => true) true Try.f3.params.toList args.toList ds p := hA0
  rw [Try.params3] at hA hval
  obtain ⟨v0, vs0, d0, ds0, p0, q0, hargs, rfl, rfl, h0, r0⟩ := trodAll_cons hA
  obtain ⟨v1, vs1, d1, ds1, p1, q1, rfl, rfl, rfl, h1, r1⟩ := trodAll_cons r0
  obtain ⟨v2, vs2, d2, ds2, p2, q2, rfl, rfl, rfl, h2, r2⟩ := trodAll_cons r1
  obtain ⟨rfl, rfl, rfl⟩ := trodAll_nil r2
  obtain rfl : args = #[v0, v1, v2] := by cases args; simp_all
  obtain ⟨rfl, rfl⟩ := trodVars_none hV
  have k0 := h0
  have lt0 : ∀ x ∈ p0, x.block < W.heap.size := by obtain ⟨m, hm⟩ := k0; exact DataW.trod_lt m _ _ _ hm
  obtain ⟨c0a, c0b, y0a, y0b, m0, rfl, _, _, hy0a, hy0b⟩ := open_agg2 Try.underlying23 (by kernel_rfl) (by kernel_rfl) (hval 0 23 v0 rfl rfl) h0
  obtain ⟨aa, e0a, _, waa⟩ := DataW.trod_int Try.underlying3 hy0a
  simp at e0a; subst e0a
  obtain ⟨ab, e0b, _, wab⟩ := DataW.trod_int Try.underlying3 hy0b
  simp at e0b; subst e0b
  have k1 := h1
  have lt1 : ∀ x ∈ p1, x.block < W.heap.size := by obtain ⟨m, hm⟩ := k1; exact DataW.trod_lt m _ _ _ hm
  obtain ⟨c1a, c1b, y1a, y1b, m1, rfl, _, _, hy1a, hy1b⟩ := open_agg2 Try.underlying23 (by kernel_rfl) (by kernel_rfl) (hval 1 23 v1 rfl rfl) h1
  obtain ⟨ca, e1a, _, wca⟩ := DataW.trod_int Try.underlying3 hy1a
  simp at e1a; subst e1a
  obtain ⟨cb, e1b, _, wcb⟩ := DataW.trod_int Try.underlying3 hy1b
  simp at e1b; subst e1b
  have k2 := h2
  have lt2 : ∀ x ∈ p2, x.block < W.heap.size := by obtain ⟨m, hm⟩ := k2; exact DataW.trod_lt m _ _ _ hm
  obtain ⟨s, rfl, _, _, ws⟩ := open_int Try.underlying3 (hval 2 3 v2 rfl rfl) h2
  clear hA0 hval0
  refine (walk aa ab ca cb s W ).mono fun e W' ⟨he, bel⟩ => ?_
  subst he
  exact ⟨_, rfl, _, _, _, [], _, [], hW', trodAll_mk1 (shut_bool Try.underlying4 _), (trodAll_cons_mk (Below.trod laidOut (by kernel_rfl) (of_decide_eq_true (by kernel_rfl)) k0 bel lt0) (trodAll_cons_mk (Below.trod laidOut (by kernel_rfl) (of_decide_eq_true (by kernel_rfl)) k1 bel lt1) (trodAll_cons_mk (Below.trod laidOut (by kernel_rfl) (of_decide_eq_true (by kernel_rfl)) k2 bel lt2) trodAll_mk0))), rfl, bel.frame _, fun h => by cases h⟩

theorem over : Rows.spanMirrorsRow.holds Try.pinned (OpenSpec.ofChange Rows.spanMirrorsSpec) :=
  OpenClaim.holds_of_wide 3 Try.f3 rfl rfl rfl rfl rfl rfl rfl ⟨rfl, rfl, rfl, rfl, rfl⟩ rfl rfl rfl rfl rfl (by kernel_rfl) Try.func3 (by kernel_rfl)
    (of_decide_eq_true (by kernel_rfl)) (by unfold Func.isWrapper; first | (rw [if_pos (by decide +kernel)]; kernel_rfl) | (rw [if_neg (by decide +kernel)]; exact ⟨rfl, rfl⟩))
    (fun os started H enc _ => lifted os started H enc)

theorem spanMirrors_holds : Rows.SpanMirrorsSaid := over
end Go.Proofs.Ytabdjpfijifhmab.spanMirrors
