/-
  Layer 10 (edge), 10.4: for every two lists of edges (of which those of up to 2000 count), what is added and taken away is as if it had not been there; and the order of two does not matter. No condition.
-/
import Derived.Test.YtgbckgkkckcmfaaGreatEdgL
import Derived.Test.YtgbckgkkckcmfaaGreatEdgD
import Derived.Test.YtgbckgkkckcmfaaGreatEdgK
import Derived.Test.YtgbckgkkckcmfaaGreatArgE
import Derived.WalkKit
import Derived.ProofKit
import Derived.OpenShut
import Derived.ShutString
import Derived.ChangeOld
import Derived.Below
import Derived.Lib.SmallJoins
import Derived.SizedLaws
import Derived.Deep.CondSized
import Derived.JoinedCond
set_option linter.unusedVariables false
set_option linter.unusedSimpArgs false
namespace Go.Proofs.YtgbckgkkckcmfaaGreat.edgeUndo
open Go.ChangeShapes Go.WideShapes Go.ChangeAt Go.RowKit Go.Joins
open Go.ChangeMaps (open_string shut_string)
attribute [local go_sem] GW.cell GW.frozen In.eq_true In.le_true In.ne In.ne' In.ne_add In.ne_add' In.lt_add Upto.le_true Upto.le_add Upto.lt_add

set_option maxHeartbeats 8000000 in
set_option maxRecDepth 100000 in
theorem walk (a b : List Ve) (v1 v2 : Value) (w : World) (ha : Ew w [] v1 a) (hb : Ew w [] v2 b) : Calls Tryz.prog 8 #[v1, v2] w fun e w' => e = .returned (.bool true) ∧ Ext w w' := by
  have hA1 := hide (fun w' (hX : Ext w w') => edgeAdd_c a b v1 v2 w' (ha.ext hX) (hb.ext hX))
  have hA2 := hide (fun w' (hX : Ext w w') => edgeAdd_c b a v2 v1 w' (hb.ext hX) (ha.ext hX))
  have hA3 := hide (fun w' (hX : Ext w w') => edgeNeg_c b v2 w' (hb.ext hX))
  have ha' := hide ha
  obtain ⟨hc1, hc2⟩ := ad_comm (eds a) (eds b)
  rw [← hc1] at hA2
  have hR := hide hc2
  have hUn := hide (fun h => undo_ok (a := eds a) (b := eds b) h)
  generalize adE (eds a) (eds b) = E1 at *
  generalize hR1 : adR (eds a) (eds b) = R1 at *
  generalize hR2 : adR (eds b) (eds a) = R2 at *
  generalize mpE ngOp (eds b) = E3 at *
  generalize mpR ngOp (eds b) = R3 at *
  clear hR1 hR2 hc1 hc2
  obtain ⟨VA, acap, rfl, -, -, -⟩ := ew_form ha
  obtain ⟨VB, bcap, rfl, -, -, -⟩ := ew_form hb
  clear ha hb
  by_cases la : 2000 < a.length
  · have laI : (2000 : Int) < a.length := by omega
    clear hUn
    go_enter Tryz.func8, Tryz.ntmps8
    go_wp2_with ((go_at_call 11; (first | (with_reducible refine seq_gw' (edgLive_c _) ?_) | (with_reducible refine seq_gw (edgLive_c _) ?_)); intro g))
    go_returns
    exact ⟨by first | rfl | simp, g.grown⟩
  by_cases lb : 2000 < b.length
  · have lbI : (2000 : Int) < b.length := by omega
    clear hUn
    go_enter Tryz.func8, Tryz.ntmps8
    go_wp2_with ((go_at_call 11; (first | (with_reducible refine seq_gw' (edgLive_c _) ?_) | (with_reducible refine seq_gw (edgLive_c _) ?_)); intro g))
    go_returns
    exact ⟨by first | rfl | simp, g.grown⟩
  have laI : (a.length : Int) ≤ 2000 := by omega
  have lbI : (b.length : Int) ≤ 2000 := by omega
  by_cases q1 : E1 = 0
  · subst q1
    obtain ⟨e3, hU⟩ := hUn.out rfl
    subst e3
    replace hU := hide hU
    clear hUn
    go_enter Tryz.func8, Tryz.ntmps8
    go_wp2_with (first | (go_at_call 31; first | ((with_reducible refine (hA1.out _ (Ext.refl _)).mono ?_); rintro ee w1 ⟨u1, N1, rfl, hN1, o1, x1⟩; have s1 := hide o1.ew; obtain ⟨A1, c1, rfl⟩ := own_form o1.1; replace hN1 := hide hN1; have X1 : Ext w w1 := x1;  clear o1) | ((with_reducible refine (hA2.out _ X1).mono ?_); rintro ee w2 ⟨u2, N2, rfl, hN2, o2, x2⟩; have s2 := hide o2.ew; obtain ⟨A2, c2, rfl⟩ := own_form o2.1; replace hN2 := hide hN2; have X2 : Ext w w2 := X1.trans (x2); replace s1 := hide (s1.out.ext x2);  clear o2) | ((with_reducible refine (edgeAdd_c _ _ _ _ _ s1.out s3.out).mono ?_); rintro ee w4 ⟨u4, N4, rfl, hN4, o4, x4⟩; rw [hN1.out, hN3.out, hU.out.1]; rw [hN1.out, hN3.out, hU.out.2] at hN4; have s4 := hide o4.ew; obtain ⟨A4, c4, rfl⟩ := own_form o4.1; replace hN4 := hide hN4; have X4 : Ext w w4 := X3.trans x4; clear o4)) | (go_at_call 33; ((with_reducible refine (hA3.out _ (X2.trans g1.grown)).mono ?_); rintro ee w3 ⟨u3, N3, rfl, hN3, o3, x3⟩; have s3 := hide o3.ew; obtain ⟨A3, c3, rfl⟩ := own_form o3.1; replace hN3 := hide hN3; replace s1 := hide (s1.out.ext (g1.grown.trans x3)); have X3 : Ext w w3 := (X2.trans g1.grown).trans (x3);  clear o3)) | (go_at_call 14; first | ((with_reducible refine seq_gw' (refEdgeSame_c (s4.out.ext g3.grown) (ha'.out.ext (X4.trans g3.grown))) ?_); rw [decide_eq_true hN4.out]; intro g4) | ((with_reducible refine seq_gw (refEdgeSame_c s1.out s2.out) ?_); rw [decide_eq_true (hN1.out.trans (hR.out.trans hN2.out.symm))]; intro g1)) | (go_at_call 11; (with_reducible refine seq_gw (edgLive_c _) ?_); intro g3))
    go_returns
    exact ⟨by first | rfl | simp, X4.trans g4.grown⟩
  · have hne : (E1 != 0) = true := by simp [q1]
    replace q1 := hide q1
    clear hUn
    go_enter Tryz.func8, Tryz.ntmps8
    go_wp2_with (first | (go_at_call 31; first | ((with_reducible refine (hA1.out _ (Ext.refl _)).mono ?_); rintro ee w1 ⟨u1, N1, rfl, hN1, o1, x1⟩; have s1 := hide o1.ew; obtain ⟨A1, c1, rfl⟩ := own_form o1.1; replace hN1 := hide hN1; have X1 : Ext w w1 := x1;  clear o1) | ((with_reducible refine (hA2.out _ X1).mono ?_); rintro ee w2 ⟨u2, N2, rfl, hN2, o2, x2⟩; have s2 := hide o2.ew; obtain ⟨A2, c2, rfl⟩ := own_form o2.1; replace hN2 := hide hN2; have X2 : Ext w w2 := X1.trans (x2); replace s1 := hide (s1.out.ext x2);  clear o2) | ((with_reducible refine (edgeAdd_c _ _ _ _ _ s1.out s3.out).mono ?_); rintro ee w4 ⟨u4, N4, rfl, hN4, o4, x4⟩; rw [hN1.out, hN3.out, hU.out.1]; rw [hN1.out, hN3.out, hU.out.2] at hN4; have s4 := hide o4.ew; obtain ⟨A4, c4, rfl⟩ := own_form o4.1; replace hN4 := hide hN4; have X4 : Ext w w4 := X3.trans x4; clear o4)) | (go_at_call 14; ((with_reducible refine seq_gw (refEdgeSame_c s1.out s2.out) ?_); rw [decide_eq_true (hN1.out.trans (hR.out.trans hN2.out.symm))]; intro g1)) | (go_at_call 11; (with_reducible refine seq_gw' (edgLive_c _) ?_); intro g3))
    go_returns
    exact ⟨by first | rfl | simp, X2.trans g3.grown⟩

theorem own : ownKnob Tryz.prog.godebug = none := by kernel_rfl
theorem laidOut : laidOutB Tryz.prog = true := by kernel_rfl
set_option maxRecDepth 100000 in
theorem lifted (os : Os) (started : os.Started) (H : Type) (enc : TypeId × Value → H) :
    ReturnsInHanded {} Tryz.checked os 8 .any (Rows.edgeUndoSpec.pre6 enc Tryz.prog Tryz.f8 Rows.edgeUndoRow.domain false) (Rows.edgeUndoSpec.post enc Tryz.prog Tryz.f8 false true false false) := by
  refine returnsInHanded_of_change_sized (C := Tryz.checked) own started (by kernel_rfl) Tryz.func8
    (ChangeSpec.witness6 (enc := enc) (C := Tryz.checked) false ⟨#[], #[.slice none 0 0, .slice none 0 0], []⟩ 8 (by kernel_rfl) (by kernel_rfl) (by kernel_rfl) (by kernel_rfl)) ?_
  intro W base args ds gs before hval0 hW hcnd hsz0 _
  have hsz : (DataW.weightsEach Tryz.prog (Tryz.f8.params.toList ++ Rows.edgeUndoSpec.plain.varTypes Tryz.prog) (ds ++ gs)).all (· ≤ reachBytes) = true := hsz0
  clear hsz0
  have hval : ∀ (j : Nat) t v, Tryz.f8.params[j]? = some t → args[j]? = some v → Value.okWide Tryz.prog W .any base t v := hval0
  have hW' := hW
  obtain ⟨p, q, hA0, hV, rfl, hfz, hnd⟩ := hW
  have hA : DataW.TrodAll enc Tryz.prog W 0 (fun _ => true) true Tryz.f8.params.toList args.toList ds p := hA0
  rw [Tryz.params8] at hA hval hsz
  obtain ⟨v0, vs0, d0, ds0, p0, q0, hargs, rfl, rfl, h0, r0⟩ := trodAll_cons hA
  obtain ⟨v1, vs1, d1, ds1, p1, q1, rfl, rfl, rfl, h1, r1⟩ := trodAll_cons r0
  obtain ⟨rfl, rfl, rfl⟩ := trodAll_nil r1
  obtain rfl : args = #[v0, v1] := by cases args; simp_all
  obtain ⟨rfl, rfl⟩ := trodVars_none hV
  have k0 := h0
  have lt0 : ∀ x ∈ p0, x.block < W.heap.size := by obtain ⟨m, hm⟩ := k0; exact DataW.trod_lt m _ _ _ hm
  obtain ⟨A0, n0, c0, rfl⟩ := okWide_slice Tryz.underlying22 (hval 0 22 v0 rfl rfl)
  have ⟨m0, hm0⟩ := h0
  obtain ⟨a, la, ha⟩ := open_edges Tryz.underlying22 Tryz.underlying56 (by kernel_rfl) rfl rfl rfl (by kernel_rfl) (by kernel_rfl) (by kernel_rfl) Tryz.underlying31 Tryz.underlying3 Tryz.underlying3 Tryz.underlying54 (by kernel_rfl) rfl rfl rfl (by kernel_rfl) (by kernel_rfl) (by kernel_rfl) Tryz.underlying52 Tryz.underlying3 Tryz.underlying9 hm0
  have za : a.length * 40 ≤ 140737488351232 := by rw [la]; exact sized_elems hsz (j := 0) (t := 22) (e := 56) rfl rfl Tryz.underlying22 (by kernel_rfl)
  have k1 := h1
  have lt1 : ∀ x ∈ p1, x.block < W.heap.size := by obtain ⟨m, hm⟩ := k1; exact DataW.trod_lt m _ _ _ hm
  obtain ⟨A1, n1, c1, rfl⟩ := okWide_slice Tryz.underlying22 (hval 1 22 v1 rfl rfl)
  have ⟨m1, hm1⟩ := h1
  obtain ⟨b, lb, hb⟩ := open_edges Tryz.underlying22 Tryz.underlying56 (by kernel_rfl) rfl rfl rfl (by kernel_rfl) (by kernel_rfl) (by kernel_rfl) Tryz.underlying31 Tryz.underlying3 Tryz.underlying3 Tryz.underlying54 (by kernel_rfl) rfl rfl rfl (by kernel_rfl) (by kernel_rfl) (by kernel_rfl) Tryz.underlying52 Tryz.underlying3 Tryz.underlying9 hm1
  have zb : b.length * 40 ≤ 140737488351232 := by rw [lb]; exact sized_elems hsz (j := 1) (t := 22) (e := 56) rfl rfl Tryz.underlying22 (by kernel_rfl)
  clear hA0 hval0
  refine (walk a b _ _ W ha hb).mono fun e W' ⟨he, bel⟩ => ?_
  subst he
  exact ⟨_, rfl, _, _, _, [], _, [], hW', trodAll_mk1 (shut_bool Tryz.underlying4 _), (trodAll_cons_mk (Below.trod laidOut (by kernel_rfl) (of_decide_eq_true (by kernel_rfl)) k0 bel lt0) (trodAll_cons_mk (Below.trod laidOut (by kernel_rfl) (of_decide_eq_true (by kernel_rfl)) k1 bel lt1) trodAll_mk0)), rfl, bel.frame _, fun h => by cases h⟩

theorem over : Rows.edgeUndoRow.holds Tryz.pinned (OpenSpec.ofChange Rows.edgeUndoSpec) :=
  OpenClaim.holds_of_wide 8 Tryz.f8 rfl rfl rfl rfl rfl rfl rfl ⟨rfl, rfl, rfl, rfl, rfl⟩ rfl rfl rfl rfl rfl (by kernel_rfl) Tryz.func8 (by kernel_rfl)
    (of_decide_eq_true (by kernel_rfl)) (by unfold Func.isWrapper; first | (rw [if_pos (by decide +kernel)]; kernel_rfl) | (rw [if_neg (by decide +kernel)]; exact ⟨rfl, rfl⟩))
    (fun os started H enc _ => lifted os started H enc)

theorem edgeUndo_holds : Rows.EdgeUndoSaid := over
end Go.Proofs.YtgbckgkkckcmfaaGreat.edgeUndo
