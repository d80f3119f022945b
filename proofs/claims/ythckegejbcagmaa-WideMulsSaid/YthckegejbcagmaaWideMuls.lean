/-
  Layer 23 (wide), 23.1 and 23.2: for every two numbers, their product is the one that the document says, and where it is a number of 64 bits it is told as layer 1 tells it. No condition.
-/
import Derived.Test.YthckegejbcagmaaWidL
import Derived.Test.YthckegejbcagmaaNumC
import Derived.WalkKit
import Derived.ProofKit
import Derived.OpenShut
import Derived.ShutString
import Derived.ChangeOld
import Derived.Below
import Derived.Lib.SmallJoins
set_option linter.unusedVariables false
set_option linter.unusedSimpArgs false
namespace Go.Proofs.Ythckegejbcagmaa.wideMuls
open Go.ChangeShapes Go.WideShapes Go.ChangeAt Go.RowKit Go.Joins
open Go.ChangeMaps (open_string shut_string)
attribute [local go_sem] GW.cell GW.frozen In.eq_true In.le_true In.ne In.ne' In.ne_add In.ne_add' In.lt_add Upto.le_true Upto.le_add Upto.lt_add
set_option maxHeartbeats 8000000 in
set_option maxRecDepth 100000 in
theorem walk (a b : Int) (w : World) (wa : (Lit.int .i64 a).wf = true) (wb : (Lit.int .i64 b).wf = true) : Calls Try.prog 5 #[.int .i64 a, .int .i64 b] w fun e w' => e = .returned (.bool true) ∧ Ext w w' := by
  have ha := bounds_i64 wa
  have hb := bounds_i64 wb
  have h1 := hide (fun w' => wmul_c a b ha hb w')
  have h2 := hide (fun w' => wint_c (a * b) w')
  have h3 := hide (fun w' => refMul_c a b ha hb w')
  have h4 := hide (fun w' => wrefMul_c a b ha hb w')
  have q1 : okF (inR (a * b)) (a * b) = if InI (a * b) then a * b else 0 := by
    by_cases h : InI (a * b)
    · rw [if_pos h, inR_yes h]; rfl
    · rw [if_neg h, inR_no h]; rfl
  have q2 : ovE (inR (a * b)) = if InI (a * b) then 0 else 10 := by
    by_cases h : InI (a * b)
    · rw [if_pos h, inR_yes h]; rfl
    · rw [if_neg h, inR_no h]; rfl
  rw [q1, q2] at h3
  clear q1 q2 ha hb wa wb
  generalize (if InI (a * b) then a * b else 0) = N at *
  generalize (if InI (a * b) then (0 : Int) else 10) = E at *
  unfold wv at *
  generalize hiW (a * b) = z0 at *
  generalize loW (a * b) = z1 at *
  go_enter Try.func5, Try.ntmps5
  go_wp2_with (first | (go_at_call 16; first | ((with_reducible refine seq_gw' (h1.out _) ?_); intro g) | ((with_reducible refine seq_gw (h1.out _) ?_); intro g)) | (go_at_call 17; first | ((with_reducible refine seq_gw' (h2.out _) ?_); intro g) | ((with_reducible refine seq_gw (h2.out _) ?_); intro g)) | (go_at_call 18; first | ((with_reducible refine seq_gw' (h3.out _) ?_); intro g) | ((with_reducible refine seq_gw (h3.out _) ?_); intro g)) | (go_at_call 19; first | ((with_reducible refine seq_gw' (h4.out _) ?_); intro g) | ((with_reducible refine seq_gw (h4.out _) ?_); intro g)) | (go_at_call 15; first | ((with_reducible refine seq_gw' (widLive_c _) ?_); intro g) | ((with_reducible refine seq_gw (widLive_c _) ?_); intro g)))
  refine wp_region_gw (by kernel_rfl) (by kernel_rfl) ?_
  repeat (go_big_quiet_step ((first | (go_at_call 15; with_reducible exact quiet_gw (widLive_c _)) | (go_at_call 19; with_reducible exact quiet_gw (h4.out _)))))
  refine wpQuiet_nil ?_
  intro g
  go_wp2_with fail
  all_goals
    go_returns
    refine ⟨by first | rfl | (simp; done), ?_⟩
    repeat (first | exact Ext.refl _ | with_reducible assumption | refine Ext.alloc ?_ _ | refine Ext.drew ?_ | refine Ext.drewN ?_ _ | refine ext_gw ?_ _ | refine Ext.setCell ?_ (by first | (simp; done) | (simp [Upto.le_true, Upto.le_add]; done) | (simp; omega)) _)
theorem own : ownKnob Try.prog.godebug = none := by kernel_rfl
theorem laidOut : laidOutB Try.prog = true := by kernel_rfl
set_option maxRecDepth 100000 in
theorem lifted (os : Os) (started : os.Started) (H : Type) (enc : TypeId × Value → H) :
    ReturnsInHanded {} Try.checked os 5 .any (Rows.wideMulsSpec.pre6 enc Try.prog Try.f5 Rows.wideMulsRow.domain false) (Rows.wideMulsSpec.post enc Try.prog Try.f5 false true false false) := by
  refine returnsInHanded_of_change (C := Try.checked) own started (by kernel_rfl) Try.func5
    (ChangeSpec.witness6 (enc := enc) (C := Try.checked) false ⟨#[], #[.int .i64 0, .int .i64 0], []⟩ 8 (by kernel_rfl) (by kernel_rfl) (by kernel_rfl) (by kernel_rfl)) ?_
  intro W base args ds gs before hval0 hW hcnd _
  have hval : ∀ (j : Nat) t v, Try.f5.params[j]? = some t → args[j]? = some v → Value.okWide Try.prog W .any base t v := hval0
  have hW' := hW
  obtain ⟨p, q, hA0, hV, rfl, hfz, hnd⟩ := hW
  have hA : DataW.TrodAll enc Try.prog W 0 (fun _ => true) true Try.f5.params.toList args.toList ds p := hA0
  rw [Try.params5] at hA hval
  obtain ⟨v0, vs0, d0, ds0, p0, q0, hargs, rfl, rfl, h0, r0⟩ := trodAll_cons hA
  obtain ⟨v1, vs1, d1, ds1, p1, q1, rfl, rfl, rfl, h1, r1⟩ := trodAll_cons r0
  obtain ⟨rfl, rfl, rfl⟩ := trodAll_nil r1
  obtain rfl : args = #[v0, v1] := by cases args; simp_all
  obtain ⟨rfl, rfl⟩ := trodVars_none hV
  have k0 := h0
  have lt0 : ∀ x ∈ p0, x.block < W.heap.size := by obtain ⟨m, hm⟩ := k0; exact DataW.trod_lt m _ _ _ hm
  obtain ⟨a, rfl, _, _, wa⟩ := open_int Try.underlying3 (hval 0 3 v0 rfl rfl) h0
  have k1 := h1
  have lt1 : ∀ x ∈ p1, x.block < W.heap.size := by obtain ⟨m, hm⟩ := k1; exact DataW.trod_lt m _ _ _ hm
  obtain ⟨b, rfl, _, _, wb⟩ := open_int Try.underlying3 (hval 1 3 v1 rfl rfl) h1
  clear hA0 hval0
  refine (walk a b W wa wb).mono fun e W' ⟨he, bel⟩ => ?_
  subst he
  exact ⟨_, rfl, _, _, _, [], _, [], hW', trodAll_mk1 (shut_bool Try.underlying4 _), (trodAll_cons_mk (Below.trod laidOut (by kernel_rfl) (of_decide_eq_true (by kernel_rfl)) k0 bel lt0) (trodAll_cons_mk (Below.trod laidOut (by kernel_rfl) (of_decide_eq_true (by kernel_rfl)) k1 bel lt1) trodAll_mk0)), rfl, bel.frame _, fun h => by cases h⟩

theorem over : Rows.wideMulsRow.holds Try.pinned (OpenSpec.ofChange Rows.wideMulsSpec) :=
  OpenClaim.holds_of_wide 5 Try.f5 rfl rfl rfl rfl rfl rfl rfl ⟨rfl, rfl, rfl, rfl, rfl⟩ rfl rfl rfl rfl rfl (by kernel_rfl) Try.func5 (by kernel_rfl)
    (of_decide_eq_true (by kernel_rfl)) (by unfold Func.isWrapper; first | (rw [if_pos (by decide +kernel)]; kernel_rfl) | (rw [if_neg (by decide +kernel)]; exact ⟨rfl, rfl⟩))
    (fun os started H enc _ => lifted os started H enc)

theorem wideMuls_holds : Rows.WideMulsSaid := over
end Go.Proofs.Ythckegejbcagmaa.wideMuls
