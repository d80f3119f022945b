/-
  Layer 23 (wide), 23.3: for every three numbers, the first two of which have a sum of 64 bits, a product of the sum is the sum of the products. No condition.
-/
import Derived.Test.YthckegejbcagmaaWidL
import Derived.Test.YthckegejbcagmaaNumC
import Derived.WalkKit
import Derived.ProofKit
import Derived.OpenShut
import Derived.ShutString
import Derived.ChangeOld
import Derived.Below
import Derived.Lib.SmallJoins
set_option linter.unusedVariables false
set_option linter.unusedSimpArgs false
namespace Go.Proofs.Ythckegejbcagmaa.wideRing
open Go.ChangeShapes Go.WideShapes Go.ChangeAt Go.RowKit Go.Joins
open Go.ChangeMaps (open_string shut_string)
attribute [local go_sem] GW.cell GW.frozen In.eq_true In.le_true In.ne In.ne' In.ne_add In.ne_add' In.lt_add Upto.le_true Upto.le_add Upto.lt_add
set_option maxHeartbeats 8000000 in
set_option maxRecDepth 100000 in
theorem walk (a b c : Int) (w : World) (wa : (Lit.int .i64 a).wf = true) (wb : (Lit.int .i64 b).wf = true) (wc : (Lit.int .i64 c).wf = true) : Calls Try.prog 6 #[.int .i64 a, .int .i64 b, .int .i64 c] w fun e w' => e = .returned (.bool true) ∧ Ext w w' := by
  have ha := bounds_i64 wa
  have hb := bounds_i64 wb
  have hc := bounds_i64 wc
  have h1 := hide (fun w' => refAdd_c a b ha hb w')
  by_cases hi : InI (a + b)
  · rw [inR_yes hi] at h1
    have h2 := hide (fun w' => wmul_c a c ha hc w')
    have h3 := hide (fun w' => wmul_c b c hb hc w')
    have h4 := hide (fun w' => wadd_c (a * c) (b * c) (mul_hi ha hc) (mul_hi hb hc) w')
    have h5 := hide (fun w' => wmul_c (a + b) c hi hc w')
    have h6 := hide (fun w' => wmul_c c a hc ha w')
    have hm := mul_hi hi hc
    rw [show a * c + b * c = (a + b) * c from (Int.add_mul a b c).symm, okW_in hm, erW_in hm] at h4
    rw [Int.mul_comm c a] at h6
    simp only [okF, ovE, if_true] at h1
    clear hm hi ha hb hc wa wb wc
    unfold wv at *
    generalize hiW ((a + b) * c) = z0 at *
    generalize loW ((a + b) * c) = z1 at *
    generalize hiW (a * c) = z2 at *
    generalize loW (a * c) = z3 at *
    generalize hiW (b * c) = z4 at *
    generalize loW (b * c) = z5 at *
    generalize a + b = s at *
    go_enter Try.func6, Try.ntmps6
    go_wp2_with (first | (go_at_call 20; first | ((with_reducible refine seq_gw' (h1.out _) ?_); intro g) | ((with_reducible refine seq_gw (h1.out _) ?_); intro g)) | (go_at_call 16; first | ((with_reducible refine seq_gw' (h2.out _) ?_); intro g) | ((with_reducible refine seq_gw (h2.out _) ?_); intro g)) | (go_at_call 16; first | ((with_reducible refine seq_gw' (h3.out _) ?_); intro g) | ((with_reducible refine seq_gw (h3.out _) ?_); intro g)) | (go_at_call 16; first | ((with_reducible refine seq_gw' (h5.out _) ?_); intro g) | ((with_reducible refine seq_gw (h5.out _) ?_); intro g)) | (go_at_call 11; first | ((with_reducible refine seq_gw' (h4.out _) ?_); intro g) | ((with_reducible refine seq_gw (h4.out _) ?_); intro g)) | (go_at_call 15; first | ((with_reducible refine seq_gw' (widLive_c _) ?_); intro g) | ((with_reducible refine seq_gw (widLive_c _) ?_); intro g)))
    refine wp_region_gw (by kernel_rfl) (by kernel_rfl) ?_
    repeat (go_big_quiet_step ((first | (go_at_call 15; with_reducible exact quiet_gw (widLive_c _)) | (go_at_call 16; with_reducible exact quiet_gw (h5.out _)) | (go_at_call 16; with_reducible exact quiet_gw (h2.out _)) | (go_at_call 16; with_reducible exact quiet_gw (h6.out _)))))
    refine wpQuiet_nil ?_
    intro g
    go_wp2_with fail
    all_goals
      go_returns
      refine ⟨by first | rfl | (simp; done), ?_⟩
      repeat (first | exact Ext.refl _ | with_reducible assumption | refine Ext.alloc ?_ _ | refine Ext.drew ?_ | refine Ext.drewN ?_ _ | refine ext_gw ?_ _ | refine Ext.setCell ?_ (by first | (simp; done) | (simp [Upto.le_true, Upto.le_add]; done) | (simp; omega)) _)
  · rw [inR_no hi] at h1
    simp only [okF, ovE] at h1
    clear hi ha hb hc wa wb wc
    go_enter Try.func6, Try.ntmps6
    go_wp2_with (first | (go_at_call 20; first | ((with_reducible refine seq_gw' (h1.out _) ?_); intro g) | ((with_reducible refine seq_gw (h1.out _) ?_); intro g)) | (go_at_call 15; first | ((with_reducible refine seq_gw' (widLive_c _) ?_); intro g) | ((with_reducible refine seq_gw (widLive_c _) ?_); intro g)))
    all_goals
      go_returns
      refine ⟨by first | rfl | (simp; done), ?_⟩
      repeat (first | exact Ext.refl _ | with_reducible assumption | refine Ext.alloc ?_ _ | refine Ext.drew ?_ | refine Ext.drewN ?_ _ | refine ext_gw ?_ _ | refine Ext.setCell ?_ (by first | (simp; done) | (simp [Upto.le_true, Upto.le_add]; done) | (simp; omega)) _)
theorem own : ownKnob Try.prog.godebug = none := by kernel_rfl
theorem laidOut : laidOutB Try.prog = true := by kernel_rfl
set_option maxRecDepth 100000 in
theorem lifted (os : Os) (started : os.Started) (H : Type) (enc : TypeId × Value → H) :
    ReturnsInHanded {} Try.checked os 6 .any (Rows.wideRingSpec.pre6 enc Try.prog Try.f6 Rows.wideRingRow.domain false) (Rows.wideRingSpec.post enc Try.prog Try.f6 false true false false) := by
  refine returnsInHanded_of_change (C := Try.checked) own started (by kernel_rfl) Try.func6
    (ChangeSpec.witness6 (enc := enc) (C := Try.checked) false ⟨#[], #[.int .i64 0, .int .i64 0, .int .i64 0], []⟩ 8 (by kernel_rfl) (by kernel_rfl) (by kernel_rfl) (by kernel_rfl)) ?_
  intro W base args ds gs before hval0 hW hcnd _
  have hval : ∀ (j : Nat) t v, Try.f6.params[j]? = some t → args[j]? = some v → Value.okWide Try.prog W .any base t v := hval0
  have hW' := hW
  obtain ⟨p, q, hA0, hV, rfl, hfz, hnd⟩ := hW
  have hA : DataW.TrodAll enc Try.prog W 0 (fun _ => true) true Try.f6.params.toList args.toList ds p := hA0
  rw [Try.params6] at hA hval
  obtain ⟨v0, vs0, d0, ds0, p0, q0, hargs, rfl, rfl, h0, r0⟩ := trodAll_cons hA
  obtain ⟨v1, vs1, d1, ds1, p1, q1, rfl, rfl, rfl, h1, r1⟩ := trodAll_cons r0
  obtain ⟨v2, vs2, d2, ds2, p2, q2, rfl, rfl, rfl, h2, r2⟩ := trodAll_cons r1
  obtain ⟨rfl, rfl, rfl⟩ := trodAll_nil r2
  obtain rfl : args = #[v0, v1, v2] := by cases args; simp_all
  obtain ⟨rfl, rfl⟩ := trodVars_none hV
  have k0 := h0
  have lt0 : ∀ x ∈ p0, x.block < W.heap.size := by obtain ⟨m, hm⟩ := k0; exact DataW.trod_lt m _ _ _ hm
  obtain ⟨a, rfl, _, _, wa⟩ := open_int Try.underlying3 (hval 0 3 v0 rfl rfl) h0
  have k1 := h1
  have lt1 : ∀ x ∈ p1, x.block < W.heap.size := by obtain ⟨m, hm⟩ := k1; exact DataW.trod_lt m _ _ _ hm
  obtain ⟨b, rfl, _, _, wb⟩ := open_int Try.underlying3 (hval 1 3 v1 rfl rfl) h1
  have k2 := h2
  have lt2 : ∀ x ∈ p2, x.block < W.heap.size := by obtain ⟨m, hm⟩ := k2; exact DataW.trod_lt m _ _ _ hm
  obtain ⟨c, rfl, _, _, wc⟩ := open_int Try.underlying3 (hval 2 3 v2 rfl rfl) h2
  clear hA0 hval0
  refine (walk a b c W wa wb wc).mono fun e W' ⟨he, bel⟩ => ?_
  subst he
  exact ⟨_, rfl, _, _, _, [], _, [], hW', trodAll_mk1 (shut_bool Try.underlying4 _), (trodAll_cons_mk (Below.trod laidOut (by kernel_rfl) (of_decide_eq_true (by kernel_rfl)) k0 bel lt0) (trodAll_cons_mk (Below.trod laidOut (by kernel_rfl) (of_decide_eq_true (by kernel_rfl)) k1 bel lt1) (trodAll_cons_mk (Below.trod laidOut (by kernel_rfl) (of_decide_eq_true (by kernel_rfl)) k2 bel lt2) trodAll_mk0))), rfl, bel.frame _, fun h => by cases h⟩

theorem over : Rows.wideRingRow.holds Try.pinned (OpenSpec.ofChange Rows.wideRingSpec) :=
  OpenClaim.holds_of_wide 6 Try.f6 rfl rfl rfl rfl rfl rfl rfl ⟨rfl, rfl, rfl, rfl, rfl⟩ rfl rfl rfl rfl rfl (by kernel_rfl) Try.func6 (by kernel_rfl)
    (of_decide_eq_true (by kernel_rfl)) (by unfold Func.isWrapper; first | (rw [if_pos (by decide +kernel)]; kernel_rfl) | (rw [if_neg (by decide +kernel)]; exact ⟨rfl, rfl⟩))
    (fun os started H enc _ => lifted os started H enc)

theorem wideRing_holds : Rows.WideRingSaid := over
end Go.Proofs.Ythckegejbcagmaa.wideRing
