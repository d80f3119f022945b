/-
  Layer 10 (edge), 10.1: edges of any order, put together, are those that the document says; which are in form, and which are a table, too: for every list of edges (of which those of up to 60 count). No condition.
-/
import Derived.Test.YtpiehlfpkfbckaaGreatEdgL
import Derived.Test.YtpiehlfpkfbckaaGreatArgE
import Derived.Test.YtpiehlfpkfbckaaGreatEdgMp
import Derived.WalkKit
import Derived.ProofKit
import Derived.OpenShut
import Derived.ShutString
import Derived.ChangeOld
import Derived.Below
import Derived.Lib.SmallJoins
import Derived.SizedLaws
import Derived.Deep.CondSized
import Derived.JoinedCond
set_option linter.unusedVariables false
set_option linter.unusedSimpArgs false
namespace Go.Proofs.YtpiehlfpkfbckaaGreat.edgeNorms
open Go.ChangeShapes Go.WideShapes Go.ChangeAt Go.RowKit Go.Joins
open Go.ChangeMaps (open_string shut_string)
attribute [local go_sem] GW.cell GW.frozen In.eq_true In.le_true In.ne In.ne' In.ne_add In.ne_add' In.lt_add Upto.le_true Upto.le_add Upto.lt_add

set_option maxHeartbeats 1000000 in
theorem few_c (L : List Ve) (v : Value) (w : World) (h : Ew w [] v L) : Calls Tryz.prog 10 #[v] w fun e w' => e = .returned (.bool (decide (L.length ≤ 60))) ∧ Ext w w' := by
  obtain ⟨A, cap, rfl, -, -, -⟩ := ew_form h
  clear h
  by_cases hl : L.length ≤ 60
  · have hI : (L.length : Int) ≤ 60 := by omega
    rw [decide_eq_true hl]
    go_enter Tryz.func10, Tryz.ntmps10
    go_wp2_with fail
    go_returns
    exact ⟨by first | rfl | simp, Ext.refl w⟩
  · have hI : ¬ (L.length : Int) ≤ 60 := by omega
    rw [decide_eq_false hl]
    go_enter Tryz.func10, Tryz.ntmps10
    go_wp2_with fail
    go_returns
    exact ⟨by first | rfl | simp, Ext.refl w⟩

set_option maxHeartbeats 8000000 in
set_option maxRecDepth 100000 in
theorem walk (l : List Ve) (v : Value) (w : World) (ha : Ew w [] v l) : Calls Tryz.prog 3 #[v] w fun e w' => e = .returned (.bool true) ∧ Ext w w' := by
  have hfew := hide (few_c l v w ha)
  by_cases hl : l.length ≤ 60
  · rw [decide_eq_true hl] at hfew
    have hA := hide (fun w' (hX : Ext w w') => edgeNorm_c l (by omega) (fun r => Nat.le_trans (jmps_le _ r) (by simp only [eds, List.length_map]; omega)) v w' (ha.ext hX))
    have hB := hide (fun w' (hX : Ext w w') => refEdgeNorm_c l (by omega) v w' (ha.ext hX))
    have hMl := hide (fun w' (hX : Ext w w') => edgeMay_c l v w' (ha.ext hX))
    have hMr := hide (fun w' (hX : Ext w w') => refEdgeMay_c l v w' (ha.ext hX))
    have hTl := hide (fun w' (hX : Ext w w') => edgeTable_c l v w' (ha.ext hX))
    have hTr := hide (fun w' (hX : Ext w w') => refEdgeTable_c l v w' (ha.ext hX))
    have hmay0 : Hid (neE (eds l) = 0 → ∀ x, x = neR (eds l) → mayE x = true) := fun h x hx => by rw [hx]; exact ne_may h
    have htab : Hid (∀ x, x = neR (eds l) → tabE x = tabE (neR (eds l))) := fun x hx => by rw [hx]
    generalize tabE (neR (eds l)) = tn at htab
    generalize neE (eds l) = E at *
    generalize neR (eds l) = R at *
    generalize mayE (eds l) = m at *
    generalize tabE (eds l) = t at *
    obtain ⟨VA, acap, rfl, -, -, -⟩ := ew_form ha
    clear ha
    by_cases q : E = 0
    · subst q
      have hmay := hide (hmay0.out rfl)
      clear hmay0
      have bt : (tn != tn) = false := by simp
      have bm : (m == m) = true := by simp
      have bt2 : (t == t) = true := by simp
      go_enter Tryz.func3, Tryz.ntmps3
      go_wp2_with (first | (go_at_call 10; (with_reducible refine seq_gw hfew.out ?_); intro g0) | (go_at_call 12; ((with_reducible refine (hA.out _ g0.grown).mono ?_); rintro ee w1 ⟨u1, N1, rfl, hN1, o1, x1⟩; have s1 := hide o1.ew; obtain ⟨A1, c1, rfl⟩ := own_form o1.1; replace hN1 := hide hN1; have X1 : Ext w w1 := g0.grown.trans (x1);  clear o1)) | (go_at_call 13; ((with_reducible refine (hB.out _ X1).mono ?_); rintro ee w2 ⟨u2, N2, rfl, hN2, o2, x2⟩; have s2 := hide o2.ew; obtain ⟨A2, c2, rfl⟩ := own_form o2.1; replace hN2 := hide hN2; have X2 : Ext w w2 := X1.trans (x2); replace s1 := hide (s1.out.ext x2);  clear o2)) | (go_at_call 14; (with_reducible refine seq_gw (refEdgeSame_c s1.out s2.out) ?_); rw [decide_eq_true (hN1.out.trans hN2.out.symm)]; intro g1) | (go_at_call 15; first | ((with_reducible refine seq_gw' (hMl.out _ (X2.trans g5.grown)) ?_); intro g6) | ((with_reducible refine seq_gw' (edgeMay_c N1 _ _ (s1.out.ext g1.grown)) ?_); rw [hmay.out _ hN1.out]; intro g2)) | (go_at_call 18; (with_reducible refine seq_gw' (hMr.out _ (X2.trans g6.grown)) ?_); intro g7) | (go_at_call 16; first | ((with_reducible refine seq_gw' (hTl.out _ (X2.trans g7.grown)) ?_); intro g8) | ((with_reducible refine seq_gw' (edgeTable_c N1 _ _ (s1.out.ext g2.grown)) ?_); rw [htab.out _ hN1.out]; intro g3)) | (go_at_call 17; first | ((with_reducible refine seq_gw' (hTr.out _ (X2.trans g8.grown)) ?_); intro g9) | ((with_reducible refine seq_gw' (refEdgeTable_c N2 _ _ (s2.out.ext g3.grown)) ?_); rw [htab.out _ hN2.out]; intro g4)) | (go_at_call 11; (with_reducible refine seq_gw' (edgLive_c _) ?_); intro g5))
      go_returns
      exact ⟨by first | rfl | simp, X2.trans g9.grown⟩
    · have be : (E == 0) = false := by rw [beq_eq_false_iff_ne]; exact q
      have bm : (m == m) = true := by simp
      have bt2 : (t == t) = true := by simp
      replace q := hide q
      clear hmay0
      go_enter Tryz.func3, Tryz.ntmps3
      go_wp2_with (first | (go_at_call 10; (with_reducible refine seq_gw hfew.out ?_); intro g0) | (go_at_call 12; ((with_reducible refine (hA.out _ g0.grown).mono ?_); rintro ee w1 ⟨u1, N1, rfl, hN1, o1, x1⟩; have s1 := hide o1.ew; obtain ⟨A1, c1, rfl⟩ := own_form o1.1; replace hN1 := hide hN1; have X1 : Ext w w1 := g0.grown.trans (x1);  clear o1)) | (go_at_call 13; ((with_reducible refine (hB.out _ X1).mono ?_); rintro ee w2 ⟨u2, N2, rfl, hN2, o2, x2⟩; have s2 := hide o2.ew; obtain ⟨A2, c2, rfl⟩ := own_form o2.1; replace hN2 := hide hN2; have X2 : Ext w w2 := X1.trans (x2); replace s1 := hide (s1.out.ext x2);  clear o2)) | (go_at_call 14; (with_reducible refine seq_gw (refEdgeSame_c s1.out s2.out) ?_); rw [decide_eq_true (hN1.out.trans hN2.out.symm)]; intro g1) | (go_at_call 15; first | ((with_reducible refine seq_gw' (hMl.out _ (X2.trans g5.grown)) ?_); intro g6) | ((with_reducible refine seq_gw' (edgeMay_c N1 _ _ (s1.out.ext g1.grown)) ?_); rw [hmay.out _ hN1.out]; intro g2)) | (go_at_call 18; (with_reducible refine seq_gw' (hMr.out _ (X2.trans g6.grown)) ?_); intro g7) | (go_at_call 16; first | ((with_reducible refine seq_gw' (hTl.out _ (X2.trans g7.grown)) ?_); intro g8) | ((with_reducible refine seq_gw' (edgeTable_c N1 _ _ (s1.out.ext g2.grown)) ?_); rw [htab.out _ hN1.out]; intro g3)) | (go_at_call 17; first | ((with_reducible refine seq_gw' (hTr.out _ (X2.trans g8.grown)) ?_); intro g9) | ((with_reducible refine seq_gw' (refEdgeTable_c N2 _ _ (s2.out.ext g3.grown)) ?_); rw [htab.out _ hN2.out]; intro g4)) | (go_at_call 11; (with_reducible refine seq_gw' (edgLive_c _) ?_); intro g5))
      go_returns
      exact ⟨by first | rfl | simp, X2.trans g9.grown⟩
  · rw [decide_eq_false hl] at hfew
    obtain ⟨VA, acap, rfl, -, -, -⟩ := ew_form ha
    clear ha hl
    go_enter Tryz.func3, Tryz.ntmps3
    go_wp2_with (first | (go_at_call 10; (with_reducible refine seq_gw hfew.out ?_); intro g0) | (go_at_call 11; (with_reducible refine seq_gw' (edgLive_c _) ?_); intro g1))
    go_returns
    exact ⟨by first | rfl | simp, g1.grown⟩

theorem own : ownKnob Tryz.prog.godebug = none := by kernel_rfl
theorem laidOut : laidOutB Tryz.prog = true := by kernel_rfl
set_option maxRecDepth 100000 in
theorem lifted (os : Os) (started : os.Started) (H : Type) (enc : TypeId × Value → H) :
    ReturnsInHanded {} Tryz.checked os 3 .any (Rows.edgeNormsSpec.pre6 enc Tryz.prog Tryz.f3 Rows.edgeNormsRow.domain false) (Rows.edgeNormsSpec.post enc Tryz.prog Tryz.f3 false true false false) := by
  refine returnsInHanded_of_change_sized (C := Tryz.checked) own started (by kernel_rfl) Tryz.func3
    (ChangeSpec.witness6 (enc := enc) (C := Tryz.checked) false ⟨#[], #[.slice none 0 0], []⟩ 8 (by kernel_rfl) (by kernel_rfl) (by kernel_rfl) (by kernel_rfl)) ?_
  intro W base args ds gs before hval0 hW hcnd hsz0 _
  have hsz : (DataW.weightsEach Tryz.prog (Tryz.f3.params.toList ++ Rows.edgeNormsSpec.plain.varTypes Tryz.prog) (ds ++ gs)).all (· ≤ reachBytes) = true := hsz0
  clear hsz0
  have hval : ∀ (j : Nat) t v, Tryz.f3.params[j]? = some t → args[j]? = some v → Value.okWide Tryz.prog W .any base t v := hval0
  have hW' := hW
  obtain ⟨p, q, hA0, hV, rfl, hfz, hnd⟩ := hW
  have hA : DataW.TrodAll enc Tryz.prog W 0 (fun _ => true) true Tryz.f3.params.toList args.toList ds p := hA0
  rw [Tryz.params3] at hA hval hsz
  obtain ⟨v0, vs0, d0, ds0, p0, q0, hargs, rfl, rfl, h0, r0⟩ := trodAll_cons hA
  obtain ⟨rfl, rfl, rfl⟩ := trodAll_nil r0
  obtain rfl : args = #[v0] := by cases args; simp_all
  obtain ⟨rfl, rfl⟩ := trodVars_none hV
  have k0 := h0
  have lt0 : ∀ x ∈ p0, x.block < W.heap.size := by obtain ⟨m, hm⟩ := k0; exact DataW.trod_lt m _ _ _ hm
  obtain ⟨A0, n0, c0, rfl⟩ := okWide_slice Tryz.underlying22 (hval 0 22 v0 rfl rfl)
  have ⟨m0, hm0⟩ := h0
  obtain ⟨l, ll, hl⟩ := open_edges Tryz.underlying22 Tryz.underlying56 (by kernel_rfl) rfl rfl rfl (by kernel_rfl) (by kernel_rfl) (by kernel_rfl) Tryz.underlying31 Tryz.underlying3 Tryz.underlying3 Tryz.underlying54 (by kernel_rfl) rfl rfl rfl (by kernel_rfl) (by kernel_rfl) (by kernel_rfl) Tryz.underlying52 Tryz.underlying3 Tryz.underlying9 hm0
  have zl : l.length * 40 ≤ 140737488351232 := by rw [ll]; exact sized_elems hsz (j := 0) (t := 22) (e := 56) rfl rfl Tryz.underlying22 (by kernel_rfl)
  clear hA0 hval0
  refine (walk l _ W hl).mono fun e W' ⟨he, bel⟩ => ?_
  subst he
  exact ⟨_, rfl, _, _, _, [], _, [], hW', trodAll_mk1 (shut_bool Tryz.underlying4 _), (trodAll_cons_mk (Below.trod laidOut (by kernel_rfl) (of_decide_eq_true (by kernel_rfl)) k0 bel lt0) trodAll_mk0), rfl, bel.frame _, fun h => by cases h⟩

theorem over : Rows.edgeNormsRow.holds Tryz.pinned (OpenSpec.ofChange Rows.edgeNormsSpec) :=
  OpenClaim.holds_of_wide 3 Tryz.f3 rfl rfl rfl rfl rfl rfl rfl ⟨rfl, rfl, rfl, rfl, rfl⟩ rfl rfl rfl rfl rfl (by kernel_rfl) Tryz.func3 (by kernel_rfl)
    (of_decide_eq_true (by kernel_rfl)) (by unfold Func.isWrapper; first | (rw [if_pos (by decide +kernel)]; kernel_rfl) | (rw [if_neg (by decide +kernel)]; exact ⟨rfl, rfl⟩))
    (fun os started H enc _ => lifted os started H enc)

theorem edgeNorms_holds : Rows.EdgeNormsSaid := over
end Go.Proofs.YtpiehlfpkfbckaaGreat.edgeNorms
