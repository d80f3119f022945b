/-
  Layer 10 (edge), 10.3: sums, and what is made of each row's function, are as the document says: for every two lists of edges (of which those of up to 60 count), and place. No condition.
-/
import Derived.Test.YtpiehlfpkfbckaaGreatEdgL
import Derived.Test.YtpiehlfpkfbckaaGreatArgE
import Derived.Test.YtpiehlfpkfbckaaGreatEdgMp
import Derived.WalkKit
import Derived.ProofKit
import Derived.OpenShut
import Derived.ShutString
import Derived.ChangeOld
import Derived.Below
import Derived.Lib.SmallJoins
import Derived.SizedLaws
import Derived.Deep.CondSized
import Derived.JoinedCond
set_option linter.unusedVariables false
set_option linter.unusedSimpArgs false
namespace Go.Proofs.YtpiehlfpkfbckaaGreat.edgeSums
open Go.ChangeShapes Go.WideShapes Go.ChangeAt Go.RowKit Go.Joins
open Go.ChangeMaps (open_string shut_string)
attribute [local go_sem] GW.cell GW.frozen In.eq_true In.le_true In.ne In.ne' In.ne_add In.ne_add' In.lt_add Upto.le_true Upto.le_add Upto.lt_add

set_option maxHeartbeats 1000000 in
theorem few_c (L : List Ve) (v : Value) (w : World) (h : Ew w [] v L) : Calls Tryz.prog 10 #[v] w fun e w' => e = .returned (.bool (decide (L.length ≤ 60))) ∧ Ext w w' := by
  obtain ⟨A, cap, rfl, -, -, -⟩ := ew_form h
  clear h
  by_cases hl : L.length ≤ 60
  · have hI : (L.length : Int) ≤ 60 := by omega
    rw [decide_eq_true hl]
    go_enter Tryz.func10, Tryz.ntmps10
    go_wp2_with fail
    go_returns
    exact ⟨by first | rfl | simp, Ext.refl w⟩
  · have hI : ¬ (L.length : Int) ≤ 60 := by omega
    rw [decide_eq_false hl]
    go_enter Tryz.func10, Tryz.ntmps10
    go_wp2_with fail
    go_returns
    exact ⟨by first | rfl | simp, Ext.refl w⟩

set_option maxHeartbeats 8000000 in
set_option maxRecDepth 100000 in
theorem walk (a b : List Ve) (t : Int) (v1 v2 : Value) (w : World) (ha : Ew w [] v1 a) (hb : Ew w [] v2 b) : Calls Tryz.prog 7 #[v1, v2, .int .i64 t] w fun e w' => e = .returned (.bool true) ∧ Ext w w' := by
  have hfa := hide (fun w' (hX : Ext w w') => few_c a v1 w' (ha.ext hX))
  have hfb := hide (fun w' (hX : Ext w w') => few_c b v2 w' (hb.ext hX))
  have ha' := hide ha
  have hb' := hide hb
  obtain ⟨VA, acap, rfl, -, -, -⟩ := ew_form ha
  obtain ⟨VB, bcap, rfl, -, -, -⟩ := ew_form hb
  clear ha hb
  by_cases la : a.length ≤ 60
  · rw [decide_eq_true la] at hfa
    by_cases lb : b.length ≤ 60
    · rw [decide_eq_true lb] at hfb
      have hA1 := hide (fun w' (hX : Ext w w') => edgeAdd_c a b _ _ w' (ha'.out.ext hX) (hb'.out.ext hX))
      have hB1 := hide (fun w' (hX : Ext w w') => refEdgeAdd_c a b (by omega) _ _ w' (ha'.out.ext hX) (hb'.out.ext hX))
      have hA2 := hide (fun w' (hX : Ext w w') => edgeNeg_c a _ w' (ha'.out.ext hX))
      have hA3 := hide (fun w' (hX : Ext w w') => edgeAhead_c a t _ w' (ha'.out.ext hX))
      have hA4 := hide (fun w' (hX : Ext w w') => edgeRest_c a t _ w' (ha'.out.ext hX))
      have hB2 := hide (fun w' (hX : Ext w w') => refMapNeg_c a t (by omega) _ w' (ha'.out.ext hX))
      have hB3 := hide (fun w' (hX : Ext w w') => refMapAhead_c a t (by omega) _ w' (ha'.out.ext hX))
      have hB4 := hide (fun w' (hX : Ext w w') => refMapRest_c a t (by omega) _ w' (ha'.out.ext hX))
      clear ha' hb'
      generalize adE (eds a) (eds b) = E1 at *
      generalize adR (eds a) (eds b) = R1 at *
      generalize mpE ngOp (eds a) = E2 at *
      generalize mpR ngOp (eds a) = R2 at *
      generalize mpE (ahOp t) (eds a) = E3 at *
      generalize mpR (ahOp t) (eds a) = R3 at *
      generalize mpE (reOp t) (eds a) = E4 at *
      generalize mpR (reOp t) (eds a) = R4 at *
      go_enter Tryz.func7, Tryz.ntmps7
      go_wp2_with (first | (go_at_call 10; first | ((with_reducible refine seq_gw' (hfb.out _ g00.grown) ?_); intro g0) | ((with_reducible refine seq_gw (hfa.out _ (Ext.refl _)) ?_); intro g00)) | (go_at_call 31; ((with_reducible refine (hA1.out _ g0.grown).mono ?_); rintro ee w1 ⟨u1, N1, rfl, hN1, o1, x1⟩; have s1 := hide o1.ew; obtain ⟨A1, c1, rfl⟩ := own_form o1.1; replace hN1 := hide hN1; have X1 : Ext w w1 := g0.grown.trans (x1);  clear o1)) | (go_at_call 32; ((with_reducible refine (hB1.out _ X1).mono ?_); rintro ee w2 ⟨u2, N2, rfl, hN2, o2, x2⟩; have s2 := hide o2.ew; obtain ⟨A2, c2, rfl⟩ := own_form o2.1; replace hN2 := hide hN2; have X2 : Ext w w2 := X1.trans (x2); replace s1 := hide (s1.out.ext x2);  clear o2)) | (go_at_call 33; ((with_reducible refine (hA2.out _ (X2.trans g1.grown)).mono ?_); rintro ee w3 ⟨u3, N3, rfl, hN3, o3, x3⟩; have s3 := hide o3.ew; obtain ⟨A3, c3, rfl⟩ := own_form o3.1; replace hN3 := hide hN3; have X3 : Ext w w3 := (X2.trans g1.grown).trans (x3);  clear o3)) | (go_at_call 35; ((with_reducible refine (hA3.out _ (X4.trans g2.grown)).mono ?_); rintro ee w5 ⟨u5, N5, rfl, hN5, o5, x5⟩; have s5 := hide o5.ew; obtain ⟨A5, c5, rfl⟩ := own_form o5.1; replace hN5 := hide hN5; have X5 : Ext w w5 := (X4.trans g2.grown).trans (x5);  clear o5)) | (go_at_call 36; ((with_reducible refine (hA4.out _ (X6.trans g3.grown)).mono ?_); rintro ee w7 ⟨u7, N7, rfl, hN7, o7, x7⟩; have s7 := hide o7.ew; obtain ⟨A7, c7, rfl⟩ := own_form o7.1; replace hN7 := hide hN7; have X7 : Ext w w7 := (X6.trans g3.grown).trans (x7);  clear o7)) | (go_at_call 34; first | ((with_reducible refine (hB4.out _ X7).mono ?_); rintro ee w8 ⟨u8, N8, rfl, hN8, o8, x8⟩; have s8 := hide o8.ew; obtain ⟨A8, c8, rfl⟩ := own_form o8.1; replace hN8 := hide hN8; have X8 : Ext w w8 := X7.trans (x8); replace s7 := hide (s7.out.ext x8);  clear o8) | ((with_reducible refine (hB3.out _ X5).mono ?_); rintro ee w6 ⟨u6, N6, rfl, hN6, o6, x6⟩; have s6 := hide o6.ew; obtain ⟨A6, c6, rfl⟩ := own_form o6.1; replace hN6 := hide hN6; have X6 : Ext w w6 := X5.trans (x6); replace s5 := hide (s5.out.ext x6);  clear o6) | ((with_reducible refine (hB2.out _ X3).mono ?_); rintro ee w4 ⟨u4, N4, rfl, hN4, o4, x4⟩; have s4 := hide o4.ew; obtain ⟨A4, c4, rfl⟩ := own_form o4.1; replace hN4 := hide hN4; have X4 : Ext w w4 := X3.trans (x4); replace s3 := hide (s3.out.ext x4);  clear o4)) | (go_at_call 14; first | ((with_reducible refine seq_gw' (refEdgeSame_c (s7.out.ext g4.grown) (s8.out.ext g4.grown)) ?_); rw [decide_eq_true (hN7.out.trans hN8.out.symm)]; intro g5) | ((with_reducible refine seq_gw (refEdgeSame_c s5.out s6.out) ?_); rw [decide_eq_true (hN5.out.trans hN6.out.symm)]; intro g3) | ((with_reducible refine seq_gw (refEdgeSame_c s3.out s4.out) ?_); rw [decide_eq_true (hN3.out.trans hN4.out.symm)]; intro g2) | ((with_reducible refine seq_gw (refEdgeSame_c s1.out s2.out) ?_); rw [decide_eq_true (hN1.out.trans hN2.out.symm)]; intro g1)) | (go_at_call 11; (with_reducible refine seq_gw (edgLive_c _) ?_); intro g4))
      go_returns
      exact ⟨by first | rfl | simp, X8.trans g5.grown⟩
    · rw [decide_eq_false lb] at hfb
      clear ha' hb'
      go_enter Tryz.func7, Tryz.ntmps7
      go_wp2_with (first | (go_at_call 10; first | ((with_reducible refine seq_gw' (hfb.out _ g00.grown) ?_); intro g0) | ((with_reducible refine seq_gw (hfa.out _ (Ext.refl _)) ?_); intro g00)) | (go_at_call 11; (with_reducible refine seq_gw' (edgLive_c _) ?_); intro g1))
      go_returns
      exact ⟨by first | rfl | simp, g1.grown⟩
  · rw [decide_eq_false la] at hfa
    clear ha' hb' hfb
    go_enter Tryz.func7, Tryz.ntmps7
    go_wp2_with (first | (go_at_call 10; (with_reducible refine seq_gw (hfa.out _ (Ext.refl _)) ?_); intro g0) | (go_at_call 11; (with_reducible refine seq_gw' (edgLive_c _) ?_); intro g1))
    go_returns
    exact ⟨by first | rfl | simp, g1.grown⟩

theorem own : ownKnob Tryz.prog.godebug = none := by kernel_rfl
theorem laidOut : laidOutB Tryz.prog = true := by kernel_rfl
set_option maxRecDepth 100000 in
theorem lifted (os : Os) (started : os.Started) (H : Type) (enc : TypeId × Value → H) :
    ReturnsInHanded {} Tryz.checked os 7 .any (Rows.edgeSumsSpec.pre6 enc Tryz.prog Tryz.f7 Rows.edgeSumsRow.domain false) (Rows.edgeSumsSpec.post enc Tryz.prog Tryz.f7 false true false false) := by
  refine returnsInHanded_of_change_sized (C := Tryz.checked) own started (by kernel_rfl) Tryz.func7
    (ChangeSpec.witness6 (enc := enc) (C := Tryz.checked) false ⟨#[], #[.slice none 0 0, .slice none 0 0, .int .i64 0], []⟩ 8 (by kernel_rfl) (by kernel_rfl) (by kernel_rfl) (by kernel_rfl)) ?_
  intro W base args ds gs before hval0 hW hcnd hsz0 _
  have hsz : (DataW.weightsEach Tryz.prog (Tryz.f7.params.toList ++ Rows.edgeSumsSpec.plain.varTypes Tryz.prog) (ds ++ gs)).all (· ≤ reachBytes) = true := hsz0
  clear hsz0
  have hval : ∀ (j : Nat) t v, Tryz.f7.params[j]? = some t → args[j]? = some v → Value.okWide Tryz.prog W .any base t v := hval0
  have hW' := hW
  obtain ⟨p, q, hA0, hV, rfl, hfz, hnd⟩ := hW
  have hA : DataW.TrodAll enc Tryz.prog W 0 (fun _ => true) true Tryz.f7.params.toList args.toList ds p := hA0
  rw [Tryz.params7] at hA hval hsz
  obtain ⟨v0, vs0, d0, ds0, p0, q0, hargs, rfl, rfl, h0, r0⟩ := trodAll_cons hA
  obtain ⟨v1, vs1, d1, ds1, p1, q1, rfl, rfl, rfl, h1, r1⟩ := trodAll_cons r0
  obtain ⟨v2, vs2, d2, ds2, p2, q2, rfl, rfl, rfl, h2, r2⟩ := trodAll_cons r1
  obtain ⟨rfl, rfl, rfl⟩ := trodAll_nil r2
  obtain rfl : args = #[v0, v1, v2] := by cases args; simp_all
  obtain ⟨rfl, rfl⟩ := trodVars_none hV
  have k0 := h0
  have lt0 : ∀ x ∈ p0, x.block < W.heap.size := by obtain ⟨m, hm⟩ := k0; exact DataW.trod_lt m _ _ _ hm
  obtain ⟨A0, n0, c0, rfl⟩ := okWide_slice Tryz.underlying22 (hval 0 22 v0 rfl rfl)
  have ⟨m0, hm0⟩ := h0
  obtain ⟨a, la, ha⟩ := open_edges Tryz.underlying22 Tryz.underlying56 (by kernel_rfl) rfl rfl rfl (by kernel_rfl) (by kernel_rfl) (by kernel_rfl) Tryz.underlying31 Tryz.underlying3 Tryz.underlying3 Tryz.underlying54 (by kernel_rfl) rfl rfl rfl (by kernel_rfl) (by kernel_rfl) (by kernel_rfl) Tryz.underlying52 Tryz.underlying3 Tryz.underlying9 hm0
  have za : a.length * 40 ≤ 140737488351232 := by rw [la]; exact sized_elems hsz (j := 0) (t := 22) (e := 56) rfl rfl Tryz.underlying22 (by kernel_rfl)
  have k1 := h1
  have lt1 : ∀ x ∈ p1, x.block < W.heap.size := by obtain ⟨m, hm⟩ := k1; exact DataW.trod_lt m _ _ _ hm
  obtain ⟨A1, n1, c1, rfl⟩ := okWide_slice Tryz.underlying22 (hval 1 22 v1 rfl rfl)
  have ⟨m1, hm1⟩ := h1
  obtain ⟨b, lb, hb⟩ := open_edges Tryz.underlying22 Tryz.underlying56 (by kernel_rfl) rfl rfl rfl (by kernel_rfl) (by kernel_rfl) (by kernel_rfl) Tryz.underlying31 Tryz.underlying3 Tryz.underlying3 Tryz.underlying54 (by kernel_rfl) rfl rfl rfl (by kernel_rfl) (by kernel_rfl) (by kernel_rfl) Tryz.underlying52 Tryz.underlying3 Tryz.underlying9 hm1
  have zb : b.length * 40 ≤ 140737488351232 := by rw [lb]; exact sized_elems hsz (j := 1) (t := 22) (e := 56) rfl rfl Tryz.underlying22 (by kernel_rfl)
  have k2 := h2
  have lt2 : ∀ x ∈ p2, x.block < W.heap.size := by obtain ⟨m, hm⟩ := k2; exact DataW.trod_lt m _ _ _ hm
  obtain ⟨t, rfl, _, _, wt⟩ := open_int Tryz.underlying3 (hval 2 3 v2 rfl rfl) h2
  have ht := wf_i64 wt
  clear hA0 hval0
  refine (walk a b t _ _ W ha hb).mono fun e W' ⟨he, bel⟩ => ?_
  subst he
  exact ⟨_, rfl, _, _, _, [], _, [], hW', trodAll_mk1 (shut_bool Tryz.underlying4 _), (trodAll_cons_mk (Below.trod laidOut (by kernel_rfl) (of_decide_eq_true (by kernel_rfl)) k0 bel lt0) (trodAll_cons_mk (Below.trod laidOut (by kernel_rfl) (of_decide_eq_true (by kernel_rfl)) k1 bel lt1) (trodAll_cons_mk (Below.trod laidOut (by kernel_rfl) (of_decide_eq_true (by kernel_rfl)) k2 bel lt2) trodAll_mk0))), rfl, bel.frame _, fun h => by cases h⟩

theorem over : Rows.edgeSumsRow.holds Tryz.pinned (OpenSpec.ofChange Rows.edgeSumsSpec) :=
  OpenClaim.holds_of_wide 7 Tryz.f7 rfl rfl rfl rfl rfl rfl rfl ⟨rfl, rfl, rfl, rfl, rfl⟩ rfl rfl rfl rfl rfl (by kernel_rfl) Tryz.func7 (by kernel_rfl)
    (of_decide_eq_true (by kernel_rfl)) (by unfold Func.isWrapper; first | (rw [if_pos (by decide +kernel)]; kernel_rfl) | (rw [if_neg (by decide +kernel)]; exact ⟨rfl, rfl⟩))
    (fun os started H enc _ => lifted os started H enc)

theorem edgeSums_holds : Rows.EdgeSumsSaid := over
end Go.Proofs.YtpiehlfpkfbckaaGreat.edgeSums
