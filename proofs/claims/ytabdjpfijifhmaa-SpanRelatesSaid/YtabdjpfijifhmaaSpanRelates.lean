/-
  Layer 2 (span), 2.4, 2.5: for every two spans, how they stand is just one of thirteen ways, as the document says, and the other way round it is the one at the other end. No condition.
-/
import Derived.Test.YtabdjpfijifhmaaSpanD
import Derived.WalkKit
import Derived.ProofKit
import Derived.OpenShut
import Derived.ShutString
import Derived.ChangeOld
import Derived.Below
import Derived.Lib.SmallJoins
set_option linter.unusedVariables false
set_option linter.unusedSimpArgs false
namespace Go.Proofs.Ytabdjpfijifhmaa.spanRelates
open Go.ChangeShapes Go.WideShapes Go.ChangeAt Go.RowKit Go.Joins
open Go.ChangeMaps (open_string shut_string)
attribute [local go_sem] GW.cell GW.frozen In.eq_true In.le_true In.ne In.ne' In.ne_add In.ne_add' In.lt_add Upto.le_true Upto.le_add Upto.lt_add okF_true okF_false
set_option maxHeartbeats 2000000 in
theorem walk (a b c d : Int) (w : World)  : Calls Try.prog 7 #[.agg #[.int .i64 (a), .int .i64 (b)], .agg #[.int .i64 (c), .int .i64 (d)]] w fun e w' => e = .returned (.bool true) ∧ Ext w w' := by
  cases h0 : (mayB a b && mayB c d)
  · have hE : relE a b c d = 14 := by simp only [relE, h0]; rfl
    have hE' : relE c d a b = 14 := by simp only [relE, Bool.and_comm (mayB c d), h0]; rfl
    have hV : relV a b c d = 0 := by simp only [relV, h0]; rfl
    have hV' : relV c d a b = 0 := by simp only [relV, Bool.and_comm (mayB c d), h0]; rfl
    clear h0
    go_enter Try.func7, Try.ntmps7
    go_wp2_with (first | (go_at_call 25; (first | refine seq_gw' (relate_c _ _ _ _ _) ?_ | refine seq_gw (relate_c _ _ _ _ _) ?_); intro g) | (go_at_call 26; (first | refine seq_gw' (refRelate_c _ _ _ _ _) ?_ | refine seq_gw (refRelate_c _ _ _ _ _) ?_); intro g) | (go_at_call 13; (first | refine seq_gw' (live_c _) ?_ | refine seq_gw (live_c _) ?_); intro g))
    all_goals
      go_returns
      refine ⟨by first | rfl | (simp [*]; done), ?_⟩
      repeat (first | exact Ext.refl _ | with_reducible assumption | refine Ext.alloc ?_ _ | refine Ext.drew ?_ | refine Ext.drewN ?_ _ | refine ext_gw ?_ _ | refine Ext.setCell ?_ (by first | (simp; done) | (simp [Upto.le_true, Upto.le_add]; done) | (simp; omega)) _)

  have hE : relE a b c d = 0 := by simp only [relE, h0]; rfl
  have hE' : relE c d a b = 0 := by simp only [relE, Bool.and_comm (mayB c d), h0]; rfl
  have hr := relV_range h0
  have hV' := relV_sym a b c d h0
  have h7 := relV_same h0
  clear h0
  by_cases hn : relV a b c d = 7
  · obtain ⟨rfl, rfl⟩ := h7.1 hn
    clear h7 hr hV' hE'
    go_enter Try.func7, Try.ntmps7
    go_wp2_with (first | (go_at_call 25; (first | refine seq_gw' (relate_c _ _ _ _ _) ?_ | refine seq_gw (relate_c _ _ _ _ _) ?_); intro g) | (go_at_call 26; (first | refine seq_gw' (refRelate_c _ _ _ _ _) ?_ | refine seq_gw (refRelate_c _ _ _ _ _) ?_); intro g) | (go_at_call 13; (first | refine seq_gw' (live_c _) ?_ | refine seq_gw (live_c _) ?_); intro g))
    all_goals
      go_returns
      refine ⟨by first | rfl | (simp [*]; done), ?_⟩
      repeat (first | exact Ext.refl _ | with_reducible assumption | refine Ext.alloc ?_ _ | refine Ext.drew ?_ | refine Ext.drewN ?_ _ | refine ext_gw ?_ _ | refine Ext.setCell ?_ (by first | (simp; done) | (simp [Upto.le_true, Upto.le_add]; done) | (simp; omega)) _)

  obtain ⟨r1, r2⟩ := hr
  have t1 : decide (1 ≤ relV a b c d) = true := by simp; omega
  have t2 : decide (relV a b c d ≤ 13) = true := by simp; omega
  have t3 : (relV a b c d == 7) = false := by simp [hn]
  have t4 : ¬ (a = c ∧ b = d) := fun h => hn (h7.2 h)
  clear hn h7
  by_cases hac : a = c
  · subst hac
    have t5 : (b == d) = false := by simp; intro h; exact t4 ⟨rfl, h⟩
    clear t4
    go_enter Try.func7, Try.ntmps7
    go_wp2_with (first | (go_at_call 25; (first | refine seq_gw' (relate_c _ _ _ _ _) ?_ | refine seq_gw (relate_c _ _ _ _ _) ?_); intro g) | (go_at_call 26; (first | refine seq_gw' (refRelate_c _ _ _ _ _) ?_ | refine seq_gw (refRelate_c _ _ _ _ _) ?_); intro g) | (go_at_call 13; (first | refine seq_gw' (live_c _) ?_ | refine seq_gw (live_c _) ?_); intro g))
    all_goals
      go_returns
      refine ⟨by first | rfl | (simp [*]; done), ?_⟩
      repeat (first | exact Ext.refl _ | with_reducible assumption | refine Ext.alloc ?_ _ | refine Ext.drew ?_ | refine Ext.drewN ?_ _ | refine ext_gw ?_ _ | refine Ext.setCell ?_ (by first | (simp; done) | (simp [Upto.le_true, Upto.le_add]; done) | (simp; omega)) _)

  have t5 : (a == c) = false := by simp [hac]
  clear t4 hac
  go_enter Try.func7, Try.ntmps7
  go_wp2_with (first | (go_at_call 25; (first | refine seq_gw' (relate_c _ _ _ _ _) ?_ | refine seq_gw (relate_c _ _ _ _ _) ?_); intro g) | (go_at_call 26; (first | refine seq_gw' (refRelate_c _ _ _ _ _) ?_ | refine seq_gw (refRelate_c _ _ _ _ _) ?_); intro g) | (go_at_call 13; (first | refine seq_gw' (live_c _) ?_ | refine seq_gw (live_c _) ?_); intro g))
  all_goals
    go_returns
    refine ⟨by first | rfl | (simp [*]; done), ?_⟩
    repeat (first | exact Ext.refl _ | with_reducible assumption | refine Ext.alloc ?_ _ | refine Ext.drew ?_ | refine Ext.drewN ?_ _ | refine ext_gw ?_ _ | refine Ext.setCell ?_ (by first | (simp; done) | (simp [Upto.le_true, Upto.le_add]; done) | (simp; omega)) _)


theorem own : ownKnob Try.prog.godebug = none := by kernel_rfl
theorem laidOut : laidOutB Try.prog = true := by kernel_rfl
set_option maxRecDepth 100000 in
theorem lifted (os : Os) (started : os.Started) (H : Type) (enc : TypeId × Value → H) :
    ReturnsInHanded {} Try.checked os 7 .any (Rows.spanRelatesSpec.pre6 enc Try.prog Try.f7 Rows.spanRelatesRow.domain false) (Rows.spanRelatesSpec.post enc Try.prog Try.f7 false true false false) := by
  refine returnsInHanded_of_change (C := Try.checked) own started (by kernel_rfl) Try.func7
    (ChangeSpec.witness6 (enc := enc) (C := Try.checked) false ⟨#[], #[.agg #[.int .i64 0, .int .i64 0], .agg #[.int .i64 0, .int .i64 0]], []⟩ 8 (by kernel_rfl) (by kernel_rfl) (by kernel_rfl) (by kernel_rfl)) ?_
  intro W base args ds gs before hval0 hW hcnd _
  have hval : ∀ (j : Nat) t v, Try.f7.params[j]? = some t → args[j]? = some v → Value.okWide Try.prog W .any base t v := hval0
  have hW' := hW
  obtain ⟨p, q, hA0, hV, rfl, hfz, hnd⟩ := hW
  have hA : DataW.TrodAll enc Try.prog W 0 (fun _ => true) true Try.f7.params.toList args.toList ds p := hA0
  rw [Try.params7] at hA hval
  obtain ⟨v0, vs0, d0, ds0, p0, q0, hargs, rfl, rfl, h0, r0⟩ := trodAll_cons hA
  obtain ⟨v1, vs1, d1, ds1, p1, q1, rfl, rfl, rfl, h1, r1⟩ := trodAll_cons r0
  obtain ⟨rfl, rfl, rfl⟩ := trodAll_nil r1
  obtain rfl : args = #[v0, v1] := by cases args; simp_all
  obtain ⟨rfl, rfl⟩ := trodVars_none hV
  have k0 := h0
  have lt0 : ∀ x ∈ p0, x.block < W.heap.size := by obtain ⟨m, hm⟩ := k0; exact DataW.trod_lt m _ _ _ hm
  obtain ⟨c0a, c0b, y0a, y0b, m0, rfl, _, _, hy0a, hy0b⟩ := open_agg2 Try.underlying23 (by kernel_rfl) (by kernel_rfl) (hval 0 23 v0 rfl rfl) h0
  obtain ⟨aa, e0a, _, waa⟩ := DataW.trod_int Try.underlying3 hy0a
  simp at e0a; subst e0a
  obtain ⟨ab, e0b, _, wab⟩ := DataW.trod_int Try.underlying3 hy0b
  simp at e0b; subst e0b
  have k1 := h1
  have lt1 : ∀ x ∈ p1, x.block < W.heap.size := by obtain ⟨m, hm⟩ := k1; exact DataW.trod_lt m _ _ _ hm
  obtain ⟨c1a, c1b, y1a, y1b, m1, rfl, _, _, hy1a, hy1b⟩ := open_agg2 Try.underlying23 (by kernel_rfl) (by kernel_rfl) (hval 1 23 v1 rfl rfl) h1
  obtain ⟨ca, e1a, _, wca⟩ := DataW.trod_int Try.underlying3 hy1a
  simp at e1a; subst e1a
  obtain ⟨cb, e1b, _, wcb⟩ := DataW.trod_int Try.underlying3 hy1b
  simp at e1b; subst e1b
  clear hA0 hval0
  refine (walk aa ab ca cb W ).mono fun e W' ⟨he, bel⟩ => ?_
  subst he
  exact ⟨_, rfl, _, _, _, [], _, [], hW', trodAll_mk1 (shut_bool Try.underlying4 _), (trodAll_cons_mk (Below.trod laidOut (by kernel_rfl) (of_decide_eq_true (by kernel_rfl)) k0 bel lt0) (trodAll_cons_mk (Below.trod laidOut (by kernel_rfl) (of_decide_eq_true (by kernel_rfl)) k1 bel lt1) trodAll_mk0)), rfl, bel.frame _, fun h => by cases h⟩

theorem over : Rows.spanRelatesRow.holds Try.pinned (OpenSpec.ofChange Rows.spanRelatesSpec) :=
  OpenClaim.holds_of_wide 7 Try.f7 rfl rfl rfl rfl rfl rfl rfl ⟨rfl, rfl, rfl, rfl, rfl⟩ rfl rfl rfl rfl rfl (by kernel_rfl) Try.func7 (by kernel_rfl)
    (of_decide_eq_true (by kernel_rfl)) (by unfold Func.isWrapper; first | (rw [if_pos (by decide +kernel)]; kernel_rfl) | (rw [if_neg (by decide +kernel)]; exact ⟨rfl, rfl⟩))
    (fun os started H enc _ => lifted os started H enc)

theorem spanRelates_holds : Rows.SpanRelatesSaid := over
end Go.Proofs.Ytabdjpfijifhmaa.spanRelates
