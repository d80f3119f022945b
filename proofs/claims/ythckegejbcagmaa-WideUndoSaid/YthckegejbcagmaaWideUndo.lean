/-
  Layer 23 (wide), 23.3: for every two wide numbers, what was added can be taken away again, and the order of the two does not matter. No condition.
-/
import Derived.Test.YthckegejbcagmaaWidL
import Derived.WalkKit
import Derived.ProofKit
import Derived.OpenShut
import Derived.ShutString
import Derived.ChangeOld
import Derived.Below
import Derived.Lib.SmallJoins
set_option linter.unusedVariables false
set_option linter.unusedSimpArgs false
namespace Go.Proofs.Ythckegejbcagmaa.wideUndo
open Go.ChangeShapes Go.WideShapes Go.ChangeAt Go.RowKit Go.Joins
open Go.ChangeMaps (open_string shut_string)
attribute [local go_sem] GW.cell GW.frozen In.eq_true In.le_true In.ne In.ne' In.ne_add In.ne_add' In.lt_add Upto.le_true Upto.le_add Upto.lt_add
set_option maxHeartbeats 8000000 in
set_option maxRecDepth 100000 in
theorem walk0 (x y : Int) (hx : InW x) (hy : InW y) (w : World) : Calls Try.prog 4 #[wv x, wv y] w fun e w' => e = .returned (.bool true) ∧ Ext w w' := by
  have h1 := hide (fun w' => wadd_c x y hx hy w')
  have h2 := hide (fun w' => wadd_c y x hy hx w')
  have h3 := hide (fun w' => wneg_c y hy w')
  rw [Int.add_comm y x] at h2
  by_cases hs : InW (x + y)
  · by_cases hn : InW (-y)
    · have h4 := hide (fun w' => wadd_c (x + y) (-y) hs hn w')
      rw [show x + y + -y = x by omega, okW_in hx, erW_in hx] at h4
      rw [okW_in hs, erW_in hs] at h1 h2
      rw [okW_in hn, erW_in hn] at h3
      clear hs hn hx hy
      unfold wv at *
      generalize hiW (x + y) = z0 at *
      generalize loW (x + y) = z1 at *
      generalize hiW (-y) = z2 at *
      generalize loW (-y) = z3 at *
      generalize hiW x = z4 at *
      generalize loW x = z5 at *
      generalize hiW y = z6 at *
      generalize loW y = z7 at *
      go_enter Try.func4, Try.ntmps4
      go_wp2_with (first | (go_at_call 11; first | ((with_reducible refine seq_gw' (h4.out _) ?_); intro g) | ((with_reducible refine seq_gw (h4.out _) ?_); intro g)) | (go_at_call 11; first | ((with_reducible refine seq_gw' (h1.out _) ?_); intro g) | ((with_reducible refine seq_gw (h1.out _) ?_); intro g)) | (go_at_call 11; first | ((with_reducible refine seq_gw' (h2.out _) ?_); intro g) | ((with_reducible refine seq_gw (h2.out _) ?_); intro g)) | (go_at_call 13; first | ((with_reducible refine seq_gw' (h3.out _) ?_); intro g) | ((with_reducible refine seq_gw (h3.out _) ?_); intro g)) | (go_at_call 15; first | ((with_reducible refine seq_gw' (widLive_c _) ?_); intro g) | ((with_reducible refine seq_gw (widLive_c _) ?_); intro g)))
      all_goals
        go_returns
        refine ⟨by first | rfl | (simp; done), ?_⟩
        repeat (first | exact Ext.refl _ | with_reducible assumption | refine Ext.alloc ?_ _ | refine Ext.drew ?_ | refine Ext.drewN ?_ _ | refine ext_gw ?_ _ | refine Ext.setCell ?_ (by first | (simp; done) | (simp [Upto.le_true, Upto.le_add]; done) | (simp; omega)) _)
    · rw [okW_out hn, erW_out hn] at h3
      rw [okW_in hs, erW_in hs] at h1 h2
      clear hs hn hx hy
      unfold wv at *
      generalize hiW (x + y) = z0 at *
      generalize loW (x + y) = z1 at *
      generalize hiW x = z2 at *
      generalize loW x = z3 at *
      generalize hiW y = z4 at *
      generalize loW y = z5 at *
      generalize hiW 0 = z6 at *
      generalize loW 0 = z7 at *
      go_enter Try.func4, Try.ntmps4
      go_wp2_with (first | (go_at_call 11; first | ((with_reducible refine seq_gw' (h1.out _) ?_); intro g) | ((with_reducible refine seq_gw (h1.out _) ?_); intro g)) | (go_at_call 11; first | ((with_reducible refine seq_gw' (h2.out _) ?_); intro g) | ((with_reducible refine seq_gw (h2.out _) ?_); intro g)) | (go_at_call 13; first | ((with_reducible refine seq_gw' (h3.out _) ?_); intro g) | ((with_reducible refine seq_gw (h3.out _) ?_); intro g)) | (go_at_call 15; first | ((with_reducible refine seq_gw' (widLive_c _) ?_); intro g) | ((with_reducible refine seq_gw (widLive_c _) ?_); intro g)))
      all_goals
        go_returns
        refine ⟨by first | rfl | (simp; done), ?_⟩
        repeat (first | exact Ext.refl _ | with_reducible assumption | refine Ext.alloc ?_ _ | refine Ext.drew ?_ | refine Ext.drewN ?_ _ | refine ext_gw ?_ _ | refine Ext.setCell ?_ (by first | (simp; done) | (simp [Upto.le_true, Upto.le_add]; done) | (simp; omega)) _)
  · rw [okW_out hs, erW_out hs] at h1 h2
    obtain ⟨N, hN⟩ : ∃ S, S = okW (-y) := ⟨_, rfl⟩
    obtain ⟨F, hF⟩ : ∃ S, S = erW (-y) := ⟨_, rfl⟩
    rw [← hN, ← hF] at h3
    clear hs hx hy hN hF
    unfold wv at *
    generalize hiW N = z0 at *
    generalize loW N = z1 at *
    generalize hiW x = z2 at *
    generalize loW x = z3 at *
    generalize hiW y = z4 at *
    generalize loW y = z5 at *
    generalize hiW 0 = z6 at *
    generalize loW 0 = z7 at *
    go_enter Try.func4, Try.ntmps4
    go_wp2_with (first | (go_at_call 11; first | ((with_reducible refine seq_gw' (h1.out _) ?_); intro g) | ((with_reducible refine seq_gw (h1.out _) ?_); intro g)) | (go_at_call 11; first | ((with_reducible refine seq_gw' (h2.out _) ?_); intro g) | ((with_reducible refine seq_gw (h2.out _) ?_); intro g)) | (go_at_call 13; first | ((with_reducible refine seq_gw' (h3.out _) ?_); intro g) | ((with_reducible refine seq_gw (h3.out _) ?_); intro g)) | (go_at_call 15; first | ((with_reducible refine seq_gw' (widLive_c _) ?_); intro g) | ((with_reducible refine seq_gw (widLive_c _) ?_); intro g)))
    all_goals
      go_returns
      refine ⟨by first | rfl | (simp; done), ?_⟩
      repeat (first | exact Ext.refl _ | with_reducible assumption | refine Ext.alloc ?_ _ | refine Ext.drew ?_ | refine Ext.drewN ?_ _ | refine ext_gw ?_ _ | refine Ext.setCell ?_ (by first | (simp; done) | (simp [Upto.le_true, Upto.le_add]; done) | (simp; omega)) _)
theorem walk (ah al bh bl : Int) (w : World) (wa : (Lit.int .i64 ah).wf = true) (wb : (Lit.int .u64 al).wf = true) (wc : (Lit.int .i64 bh).wf = true) (wd : (Lit.int .u64 bl).wf = true) : Calls Try.prog 4 #[.agg #[.int .i64 ah, .int .u64 al], .agg #[.int .i64 bh, .int .u64 bl]] w fun e w' => e = .returned (.bool true) ∧ Ext w w' := by
  have ha := bounds_i64 wa
  have hb := bounds_u64 wb
  have hc := bounds_i64 wc
  have hd := bounds_u64 wd
  have := walk0 (mkW ah al) (mkW bh bl) (mk_in ha hb) (mk_in hc hd) w
  unfold wv at this
  rw [hi_mk hb, lo_mk hb, hi_mk hd, lo_mk hd] at this
  exact this
theorem own : ownKnob Try.prog.godebug = none := by kernel_rfl
theorem laidOut : laidOutB Try.prog = true := by kernel_rfl
set_option maxRecDepth 100000 in
theorem lifted (os : Os) (started : os.Started) (H : Type) (enc : TypeId × Value → H) :
    ReturnsInHanded {} Try.checked os 4 .any (Rows.wideUndoSpec.pre6 enc Try.prog Try.f4 Rows.wideUndoRow.domain false) (Rows.wideUndoSpec.post enc Try.prog Try.f4 false true false false) := by
  refine returnsInHanded_of_change (C := Try.checked) own started (by kernel_rfl) Try.func4
    (ChangeSpec.witness6 (enc := enc) (C := Try.checked) false ⟨#[], #[.agg #[.int .i64 0, .int .u64 0], .agg #[.int .i64 0, .int .u64 0]], []⟩ 8 (by kernel_rfl) (by kernel_rfl) (by kernel_rfl) (by kernel_rfl)) ?_
  intro W base args ds gs before hval0 hW hcnd _
  have hval : ∀ (j : Nat) t v, Try.f4.params[j]? = some t → args[j]? = some v → Value.okWide Try.prog W .any base t v := hval0
  have hW' := hW
  obtain ⟨p, q, hA0, hV, rfl, hfz, hnd⟩ := hW
  have hA : DataW.TrodAll enc Try.prog W 0 (fun _ => true) true Try.f4.params.toList args.toList ds p := hA0
  rw [Try.params4] at hA hval
  obtain ⟨v0, vs0, d0, ds0, p0, q0, hargs, rfl, rfl, h0, r0⟩ := trodAll_cons hA
  obtain ⟨v1, vs1, d1, ds1, p1, q1, rfl, rfl, rfl, h1, r1⟩ := trodAll_cons r0
  obtain ⟨rfl, rfl, rfl⟩ := trodAll_nil r1
  obtain rfl : args = #[v0, v1] := by cases args; simp_all
  obtain ⟨rfl, rfl⟩ := trodVars_none hV
  have k0 := h0
  have lt0 : ∀ x ∈ p0, x.block < W.heap.size := by obtain ⟨m, hm⟩ := k0; exact DataW.trod_lt m _ _ _ hm
  obtain ⟨c0a, c0b, y0a, y0b, m0, rfl, _, _, hy0a, hy0b⟩ := open_agg2 Try.underlying24 (by kernel_rfl) (by kernel_rfl) (hval 0 24 v0 rfl rfl) h0
  obtain ⟨aa, e0a, _, waa⟩ := DataW.trod_int Try.underlying3 hy0a
  simp at e0a; subst e0a
  obtain ⟨ab, e0b, _, wab⟩ := DataW.trod_int Try.underlying22 hy0b
  simp at e0b; subst e0b
  have k1 := h1
  have lt1 : ∀ x ∈ p1, x.block < W.heap.size := by obtain ⟨m, hm⟩ := k1; exact DataW.trod_lt m _ _ _ hm
  obtain ⟨c1a, c1b, y1a, y1b, m1, rfl, _, _, hy1a, hy1b⟩ := open_agg2 Try.underlying24 (by kernel_rfl) (by kernel_rfl) (hval 1 24 v1 rfl rfl) h1
  obtain ⟨ba, e1a, _, wba⟩ := DataW.trod_int Try.underlying3 hy1a
  simp at e1a; subst e1a
  obtain ⟨bb, e1b, _, wbb⟩ := DataW.trod_int Try.underlying22 hy1b
  simp at e1b; subst e1b
  clear hA0 hval0
  refine (walk aa ab ba bb W waa wab wba wbb).mono fun e W' ⟨he, bel⟩ => ?_
  subst he
  exact ⟨_, rfl, _, _, _, [], _, [], hW', trodAll_mk1 (shut_bool Try.underlying4 _), (trodAll_cons_mk (Below.trod laidOut (by kernel_rfl) (of_decide_eq_true (by kernel_rfl)) k0 bel lt0) (trodAll_cons_mk (Below.trod laidOut (by kernel_rfl) (of_decide_eq_true (by kernel_rfl)) k1 bel lt1) trodAll_mk0)), rfl, bel.frame _, fun h => by cases h⟩

theorem over : Rows.wideUndoRow.holds Try.pinned (OpenSpec.ofChange Rows.wideUndoSpec) :=
  OpenClaim.holds_of_wide 4 Try.f4 rfl rfl rfl rfl rfl rfl rfl ⟨rfl, rfl, rfl, rfl, rfl⟩ rfl rfl rfl rfl rfl (by kernel_rfl) Try.func4 (by kernel_rfl)
    (of_decide_eq_true (by kernel_rfl)) (by unfold Func.isWrapper; first | (rw [if_pos (by decide +kernel)]; kernel_rfl) | (rw [if_neg (by decide +kernel)]; exact ⟨rfl, rfl⟩))
    (fun os started H enc _ => lifted os started H enc)

theorem wideUndo_holds : Rows.WideUndoSaid := over
end Go.Proofs.Ythckegejbcagmaa.wideUndo
