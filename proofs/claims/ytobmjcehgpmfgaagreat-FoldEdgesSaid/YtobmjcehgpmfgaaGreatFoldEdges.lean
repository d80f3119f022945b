/-
  Layer 13 (fold), 13.3: for every change, the edges that it is, and the errors, are those that the document says. No condition.
-/
import Derived.Test.YtobmjcehgpmfgaaGreatFolEd
import Derived.Test.YtobmjcehgpmfgaaGreatFolEr
import Derived.Test.YtobmjcehgpmfgaaGreatFoldEdgesF
import Derived.WalkKit
import Derived.ProofKit
import Derived.OpenShut
import Derived.ShutString
import Derived.ChangeOld
import Derived.Below
import Derived.Lib.SmallJoins
import Derived.SizedLaws
import Derived.Deep.CondSized
import Derived.JoinedCond
set_option linter.unusedVariables false
set_option linter.unusedSimpArgs false
namespace Go.Proofs.YtobmjcehgpmfgaaGreat.foldEdges
open Go.ChangeShapes Go.WideShapes Go.ChangeAt Go.RowKit Go.Joins
open Go.ChangeMaps (open_string shut_string)
attribute [local go_sem] GW.cell GW.frozen In.eq_true In.le_true In.ne In.ne' In.ne_add In.ne_add' In.lt_add Upto.le_true Upto.le_add Upto.lt_add
set_option maxHeartbeats 8000000 in
set_option maxRecDepth 100000 in
theorem walk (s o1 o2 n1 n2 : Int) (q : List Vl) (u : Value) (w : World) (hu : Rw w [] u q) : Calls Tryz.prog 7 #[.agg #[.int .i64 s, u, .int .i64 o1, .int .i64 o2, .int .i64 n1, .int .i64 n2]] w fun e w' => e = .returned (.bool true) ∧ Ext w w' := by
  have hA := hide (fun w' (hx : Ext w w') => foldEdges_c s o1 o2 n1 n2 q u w' (Sl.ext hu hx))
  have hB := hide (fun w' (hx : Ext w w') => refFoldEdges_c s o1 o2 n1 n2 q u w' (Sl.ext hu hx))
  obtain ⟨UA, uc, rfl⟩ := rw_val hu
  have K : ∀ j x, #[Value.int .i64 s, .slice UA q.length uc, .int .i64 o1, .int .i64 o2, .int .i64 n1, .int .i64 n2][j]? = some x → (w.alloc (ch6 (.slice UA q.length uc) s o1 o2 n1 n2)).cell? ⟨w.heap.size, j, none⟩ = some x := fun j x hj => by
    match j, hj with
    | 0, hj => cases hj; simp [go_sem]
    | 1, hj => cases hj; simp [go_sem]
    | 2, hj => cases hj; simp [go_sem]
    | 3, hj => cases hj; simp [go_sem]
    | 4, hj => cases hj; simp [go_sem]
    | 5, hj => cases hj; simp [go_sem]
  have K0 := K 0 _ rfl
  have K1 := K 1 _ rfl
  have K2 := K 2 _ rfl
  have K3 := K 3 _ rfl
  have K4 := K 4 _ rfl
  have K5 := K 5 _ rfl
  clear K
  generalize fdE q (o1, o2) (n1, n2) = E at *
  generalize fdR q (o1, o2) (n1, n2) = R at *
  clear hu
  go_enter Tryz.func7, Tryz.ntmps7
  go_wp2_with (first | (go_at_call 44; (refine (hA.out _ Gn.ext).mono ?_; rintro ee w1 ⟨v1, M1, rfl, hM1, o1x, x1⟩; obtain ⟨AM1, cM1, qM1⟩ := own_form o1x.1; subst qM1; have k0 := cell_later x1 K0; have k1 := cell_later x1 K1; have k2 := cell_later x1 K2; have k3 := cell_later x1 K3; have k4 := cell_later x1 K4; have k5 := cell_later x1 K5; have l1 := block_lt_of_cell k0; haveI : In w.heap.size w1 := ⟨l1⟩; have X1 := hide ((Gn.ext (w := w)).trans x1); replace hM1 := hide hM1; skip)) | (go_at_call 45; (refine (hB.out _ X1.out).mono ?_; rintro ee w2 ⟨v2, M2, rfl, hM2, o2x, x2⟩; obtain ⟨AM2, cM2, qM2⟩ := own_form o2x.1; subst qM2; have X2 := hide (X1.out.trans x2); replace hM2 := hide hM2; skip)) | (go_at_call 33; first | ((with_reducible refine seq_gw' (foldLive_c _) ?_); intro g0) | ((with_reducible refine seq_gw (foldLive_c _) ?_); intro g0)) | (go_at_call 24; have hsm := refEdgeSame_c ((o1x.ew.ext x2).ext g0.grown) (o2x.ew.ext g0.grown); rw [hM1.out, hM2.out, decide_eq_true rfl] at hsm; first | ((with_reducible refine seq_gw' hsm ?_); intro g1; clear hsm) | ((with_reducible refine seq_gw hsm ?_); intro g1; clear hsm)))
  go_returns
  exact ⟨by first | rfl | simp, X2.out.trans (by first | exact g1.grown | exact g0.grown.trans g1.grown)⟩

theorem own : ownKnob Tryz.prog.godebug = none := by kernel_rfl
theorem laidOut : laidOutB Tryz.prog = true := by kernel_rfl
set_option maxRecDepth 100000 in
theorem lifted (os : Os) (started : os.Started) (H : Type) (enc : TypeId × Value → H) :
    ReturnsInHanded {} Tryz.checked os 7 .any (Rows.foldEdgesSpec.pre6 enc Tryz.prog Tryz.f7 Rows.foldEdgesRow.domain false) (Rows.foldEdgesSpec.post enc Tryz.prog Tryz.f7 false true false false) := by
  refine returnsInHanded_of_change_sized (C := Tryz.checked) own started (by kernel_rfl) Tryz.func7
    (ChangeSpec.witness6 (enc := enc) (C := Tryz.checked) false ⟨#[], #[.agg #[.int .i64 0, .slice none 0 0, .int .i64 0, .int .i64 0, .int .i64 0, .int .i64 0]], []⟩ 8 (by kernel_rfl) (by kernel_rfl) (by kernel_rfl) (by kernel_rfl)) ?_
  intro W base args ds gs before hval0 hW hcnd hsz0 _
  have hsz : (DataW.weightsEach Tryz.prog (Tryz.f7.params.toList ++ Rows.foldEdgesSpec.plain.varTypes Tryz.prog) (ds ++ gs)).all (· ≤ reachBytes) = true := hsz0
  clear hsz0
  have hval : ∀ (j : Nat) t v, Tryz.f7.params[j]? = some t → args[j]? = some v → Value.okWide Tryz.prog W .any base t v := hval0
  have hW' := hW
  obtain ⟨p, q, hA0, hV, rfl, hfz, hnd⟩ := hW
  have hA : DataW.TrodAll enc Tryz.prog W 0 (fun _ => true) true Tryz.f7.params.toList args.toList ds p := hA0
  rw [Tryz.params7] at hA hval hsz
  obtain ⟨v0, vs0, d0, ds0, p0, q0, hargs, rfl, rfl, h0, r0⟩ := trodAll_cons hA
  obtain ⟨rfl, rfl, rfl⟩ := trodAll_nil r0
  obtain rfl : args = #[v0] := by cases args; simp_all
  obtain ⟨rfl, rfl⟩ := trodVars_none hV
  have k0 := h0
  have lt0 : ∀ x ∈ p0, x.block < W.heap.size := by obtain ⟨m, hm⟩ := k0; exact DataW.trod_lt m _ _ _ hm
  obtain ⟨cs, ca, cb, cc, cd, c, cu, rfl, hc, ic, ica, icb, icc, icd, qc⟩ := open_change Tryz.underlying71 rfl rfl rfl rfl (by kernel_rfl) (by kernel_rfl) (by kernel_rfl) (by kernel_rfl) Tryz.underlying3 Tryz.underlying24 Tryz.underlying69 Tryz.underlying69 rfl rfl (by kernel_rfl) (by kernel_rfl) Tryz.underlying3 Tryz.underlying3 Tryz.underlying113 (by kernel_rfl) rfl rfl rfl (by kernel_rfl) (by kernel_rfl) (by kernel_rfl) Tryz.underlying111 Tryz.underlying3 Tryz.underlying9 (by kernel_rfl) (hval 0 71 v0 rfl rfl) h0
  clear hA0 hval0
  refine (walk cs ca cb cc cd c cu W hc).mono fun e W' ⟨he, bel⟩ => ?_
  subst he
  exact ⟨_, rfl, _, _, _, [], _, [], hW', trodAll_mk1 (shut_bool Tryz.underlying4 _), (trodAll_cons_mk (Below.trod laidOut (by kernel_rfl) (of_decide_eq_true (by kernel_rfl)) k0 bel lt0) trodAll_mk0), rfl, bel.frame _, fun h => by cases h⟩

theorem over : Rows.foldEdgesRow.holds Tryz.pinned (OpenSpec.ofChange Rows.foldEdgesSpec) :=
  OpenClaim.holds_of_wide 7 Tryz.f7 rfl rfl rfl rfl rfl rfl rfl ⟨rfl, rfl, rfl, rfl, rfl⟩ rfl rfl rfl rfl rfl (by kernel_rfl) Tryz.func7 Facts.foldEdges.closed
    (of_decide_eq_true (by kernel_rfl)) (by unfold Func.isWrapper; first | (rw [if_pos (by decide +kernel)]; kernel_rfl) | (rw [if_neg (by decide +kernel)]; exact ⟨rfl, rfl⟩))
    (fun os started H enc _ => lifted os started H enc)

theorem foldEdges_holds : Rows.FoldEdgesSaid := over
end Go.Proofs.YtobmjcehgpmfgaaGreat.foldEdges
