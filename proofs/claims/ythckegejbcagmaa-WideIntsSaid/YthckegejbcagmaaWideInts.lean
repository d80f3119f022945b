/-
  Layer 23 (wide), 23.2 and 23.3: for every two wide numbers and number, which of the two is less, and which are numbers of 64 bits, is as the document says. No condition.
-/
import Derived.Test.YthckegejbcagmaaWidL
import Derived.WalkKit
import Derived.ProofKit
import Derived.OpenShut
import Derived.ShutString
import Derived.ChangeOld
import Derived.Below
import Derived.Lib.SmallJoins
set_option linter.unusedVariables false
set_option linter.unusedSimpArgs false
namespace Go.Proofs.Ythckegejbcagmaa.wideInts
open Go.ChangeShapes Go.WideShapes Go.ChangeAt Go.RowKit Go.Joins
open Go.ChangeMaps (open_string shut_string)
attribute [local go_sem] GW.cell GW.frozen In.eq_true In.le_true In.ne In.ne' In.ne_add In.ne_add' In.lt_add Upto.le_true Upto.le_add Upto.lt_add
set_option maxHeartbeats 8000000 in
set_option maxRecDepth 100000 in
theorem walk0 (x y n : Int) (hx : InW x) (hy : InW y) (hn : InI n) (w : World) : Calls Try.prog 7 #[wv x, wv y, .int .i64 n] w fun e w' => e = .returned (.bool true) ∧ Ext w w' := by
  have h1 := hide (fun w' => wint_c x w')
  have h2 := hide (fun w' => wrefInt_c x hx w')
  have h3 := hide (fun w' => wof_c n hn w')
  have h4 := hide (fun w' => wint_c n w')
  have h5 := hide (fun w' => wcompare_c x y w')
  have h6 := hide (fun w' => wrefCompare_c x y w')
  have h7 := hide (fun w' => wrefOf_c n hn w')
  rw [if_pos hn, if_pos hn] at h4
  generalize (if InI x then x else 0) = N at *
  generalize (if InI x then (0 : Int) else 10) = E at *
  generalize cmW x y = M at *
  clear hx hy hn
  unfold wv at *
  generalize hiW x = z0 at *
  generalize loW x = z1 at *
  generalize hiW y = z2 at *
  generalize loW y = z3 at *
  generalize hiW n = z4 at *
  generalize loW n = z5 at *
  go_enter Try.func7, Try.ntmps7
  go_wp2_with (first | (go_at_call 17; first | ((with_reducible refine seq_gw' (h1.out _) ?_); intro g) | ((with_reducible refine seq_gw (h1.out _) ?_); intro g)) | (go_at_call 17; first | ((with_reducible refine seq_gw' (h4.out _) ?_); intro g) | ((with_reducible refine seq_gw (h4.out _) ?_); intro g)) | (go_at_call 21; first | ((with_reducible refine seq_gw' (h2.out _) ?_); intro g) | ((with_reducible refine seq_gw (h2.out _) ?_); intro g)) | (go_at_call 22; first | ((with_reducible refine seq_gw' (h3.out _) ?_); intro g) | ((with_reducible refine seq_gw (h3.out _) ?_); intro g)) | (go_at_call 15; first | ((with_reducible refine seq_gw' (widLive_c _) ?_); intro g) | ((with_reducible refine seq_gw (widLive_c _) ?_); intro g)))
  refine wp_region_gw (by kernel_rfl) (by kernel_rfl) ?_
  repeat (go_big_quiet_step ((first | (go_at_call 15; with_reducible exact quiet_gw (widLive_c _)) | (go_at_call 23; with_reducible exact quiet_gw (h5.out _)) | (go_at_call 24; with_reducible exact quiet_gw (h6.out _)) | (go_at_call 22; with_reducible exact quiet_gw (h3.out _)) | (go_at_call 25; with_reducible exact quiet_gw (h7.out _)))))
  refine wpQuiet_nil ?_
  intro g
  go_wp2_with fail
  all_goals
    go_returns
    refine ⟨by first | rfl | (simp; done), ?_⟩
    repeat (first | exact Ext.refl _ | with_reducible assumption | refine Ext.alloc ?_ _ | refine Ext.drew ?_ | refine Ext.drewN ?_ _ | refine ext_gw ?_ _ | refine Ext.setCell ?_ (by first | (simp; done) | (simp [Upto.le_true, Upto.le_add]; done) | (simp; omega)) _)
theorem walk (ah al bh bl n : Int) (w : World) (wa : (Lit.int .i64 ah).wf = true) (wb : (Lit.int .u64 al).wf = true) (wc : (Lit.int .i64 bh).wf = true) (wd : (Lit.int .u64 bl).wf = true) (wn : (Lit.int .i64 n).wf = true) : Calls Try.prog 7 #[.agg #[.int .i64 ah, .int .u64 al], .agg #[.int .i64 bh, .int .u64 bl], .int .i64 n] w fun e w' => e = .returned (.bool true) ∧ Ext w w' := by
  have ha := bounds_i64 wa
  have hb := bounds_u64 wb
  have hc := bounds_i64 wc
  have hd := bounds_u64 wd
  have := walk0 (mkW ah al) (mkW bh bl) n (mk_in ha hb) (mk_in hc hd) (bounds_i64 wn) w
  unfold wv at this
  rw [hi_mk hb, lo_mk hb, hi_mk hd, lo_mk hd] at this
  exact this
theorem own : ownKnob Try.prog.godebug = none := by kernel_rfl
theorem laidOut : laidOutB Try.prog = true := by kernel_rfl
set_option maxRecDepth 100000 in
theorem lifted (os : Os) (started : os.Started) (H : Type) (enc : TypeId × Value → H) :
    ReturnsInHanded {} Try.checked os 7 .any (Rows.wideIntsSpec.pre6 enc Try.prog Try.f7 Rows.wideIntsRow.domain false) (Rows.wideIntsSpec.post enc Try.prog Try.f7 false true false false) := by
  refine returnsInHanded_of_change (C := Try.checked) own started (by kernel_rfl) Try.func7
    (ChangeSpec.witness6 (enc := enc) (C := Try.checked) false ⟨#[], #[.agg #[.int .i64 0, .int .u64 0], .agg #[.int .i64 0, .int .u64 0], .int .i64 0], []⟩ 8 (by kernel_rfl) (by kernel_rfl) (by kernel_rfl) (by kernel_rfl)) ?_
  intro W base args ds gs before hval0 hW hcnd _
  have hval : ∀ (j : Nat) t v, Try.f7.params[j]? = some t → args[j]? = some v → Value.okWide Try.prog W .any base t v := hval0
  have hW' := hW
  obtain ⟨p, q, hA0, hV, rfl, hfz, hnd⟩ := hW
  have hA : DataW.TrodAll enc Try.prog W 0 (fun _ => true) true Try.f7.params.toList args.toList ds p := hA0
  rw [Try.params7] at hA hval
  obtain ⟨v0, vs0, d0, ds0, p0, q0, hargs, rfl, rfl, h0, r0⟩ := trodAll_cons hA
  obtain ⟨v1, vs1, d1, ds1, p1, q1, rfl, rfl, rfl, h1, r1⟩ := trodAll_cons r0
  obtain ⟨v2, vs2, d2, ds2, p2, q2, rfl, rfl, rfl, h2, r2⟩ := trodAll_cons r1
  obtain ⟨rfl, rfl, rfl⟩ := trodAll_nil r2
  obtain rfl : args = #[v0, v1, v2] := by cases args; simp_all
  obtain ⟨rfl, rfl⟩ := trodVars_none hV
  have k0 := h0
  have lt0 : ∀ x ∈ p0, x.block < W.heap.size := by obtain ⟨m, hm⟩ := k0; exact DataW.trod_lt m _ _ _ hm
  obtain ⟨c0a, c0b, y0a, y0b, m0, rfl, _, _, hy0a, hy0b⟩ := open_agg2 Try.underlying24 (by kernel_rfl) (by kernel_rfl) (hval 0 24 v0 rfl rfl) h0
  obtain ⟨aa, e0a, _, waa⟩ := DataW.trod_int Try.underlying3 hy0a
  simp at e0a; subst e0a
  obtain ⟨ab, e0b, _, wab⟩ := DataW.trod_int Try.underlying22 hy0b
  simp at e0b; subst e0b
  have k1 := h1
  have lt1 : ∀ x ∈ p1, x.block < W.heap.size := by obtain ⟨m, hm⟩ := k1; exact DataW.trod_lt m _ _ _ hm
  obtain ⟨c1a, c1b, y1a, y1b, m1, rfl, _, _, hy1a, hy1b⟩ := open_agg2 Try.underlying24 (by kernel_rfl) (by kernel_rfl) (hval 1 24 v1 rfl rfl) h1
  obtain ⟨ba, e1a, _, wba⟩ := DataW.trod_int Try.underlying3 hy1a
  simp at e1a; subst e1a
  obtain ⟨bb, e1b, _, wbb⟩ := DataW.trod_int Try.underlying22 hy1b
  simp at e1b; subst e1b
  have k2 := h2
  have lt2 : ∀ x ∈ p2, x.block < W.heap.size := by obtain ⟨m, hm⟩ := k2; exact DataW.trod_lt m _ _ _ hm
  obtain ⟨n, rfl, _, _, wn⟩ := open_int Try.underlying3 (hval 2 3 v2 rfl rfl) h2
  clear hA0 hval0
  refine (walk aa ab ba bb n W waa wab wba wbb wn).mono fun e W' ⟨he, bel⟩ => ?_
  subst he
  exact ⟨_, rfl, _, _, _, [], _, [], hW', trodAll_mk1 (shut_bool Try.underlying4 _), (trodAll_cons_mk (Below.trod laidOut (by kernel_rfl) (of_decide_eq_true (by kernel_rfl)) k0 bel lt0) (trodAll_cons_mk (Below.trod laidOut (by kernel_rfl) (of_decide_eq_true (by kernel_rfl)) k1 bel lt1) (trodAll_cons_mk (Below.trod laidOut (by kernel_rfl) (of_decide_eq_true (by kernel_rfl)) k2 bel lt2) trodAll_mk0))), rfl, bel.frame _, fun h => by cases h⟩

theorem over : Rows.wideIntsRow.holds Try.pinned (OpenSpec.ofChange Rows.wideIntsSpec) :=
  OpenClaim.holds_of_wide 7 Try.f7 rfl rfl rfl rfl rfl rfl rfl ⟨rfl, rfl, rfl, rfl, rfl⟩ rfl rfl rfl rfl rfl (by kernel_rfl) Try.func7 (by kernel_rfl)
    (of_decide_eq_true (by kernel_rfl)) (by unfold Func.isWrapper; first | (rw [if_pos (by decide +kernel)]; kernel_rfl) | (rw [if_neg (by decide +kernel)]; exact ⟨rfl, rfl⟩))
    (fun os started H enc _ => lifted os started H enc)

theorem wideInts_holds : Rows.WideIntsSaid := over
end Go.Proofs.Ythckegejbcagmaa.wideInts
