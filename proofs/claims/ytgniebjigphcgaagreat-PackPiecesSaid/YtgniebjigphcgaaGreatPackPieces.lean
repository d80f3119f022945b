/-
  Layer 11 (pack), 11.1 and 11.4: for every list of edges (of which those of up to 60 count), a table's pieces are those that the document says, and the edges of these are the table. No condition.
-/
import Derived.Test.YtgniebjigphcgaaGreatPakF
import Derived.Test.YtgniebjigphcgaaGreatEdgL
import Derived.Test.YtgniebjigphcgaaGreatArgP
import Derived.WalkKit
import Derived.ProofKit
import Derived.OpenShut
import Derived.ShutString
import Derived.ChangeOld
import Derived.Below
import Derived.Lib.SmallJoins
import Derived.SizedLaws
import Derived.Deep.CondSized
import Derived.JoinedCond
set_option linter.unusedVariables false
set_option linter.unusedSimpArgs false
namespace Go.Proofs.YtgniebjigphcgaaGreat.packPieces
open Go.ChangeShapes Go.WideShapes Go.ChangeAt Go.RowKit Go.Joins
open Go.ChangeMaps (open_string shut_string)
attribute [local go_sem] GW.cell GW.frozen In.eq_true In.le_true In.ne In.ne' In.ne_add In.ne_add' In.lt_add Upto.le_true Upto.le_add Upto.lt_add

set_option maxHeartbeats 1000000 in
theorem few_c (n : Nat) (w : World) : Calls Tryz.prog 10 #[.int .i64 n] w fun e w' => e = .returned (.bool (decide (n ≤ 60))) ∧ Ext w w' := by
  by_cases hl : n ≤ 60
  · have hI : (n : Int) ≤ 60 := by omega
    rw [decide_eq_true hl]
    go_enter Tryz.func10, Tryz.ntmps10
    go_wp2_with fail
    go_returns
    exact ⟨by first | rfl | simp, Ext.refl w⟩
  · have hI : ¬ (n : Int) ≤ 60 := by omega
    rw [decide_eq_false hl]
    go_enter Tryz.func10, Tryz.ntmps10
    go_wp2_with fail
    go_returns
    exact ⟨by first | rfl | simp, Ext.refl w⟩
set_option maxHeartbeats 8000000 in
set_option maxRecDepth 100000 in
theorem walk (l : List Ve) (v : Value) (w : World) (h : Ew w [] v l) : Calls Tryz.prog 4 #[v] w fun e w' => e = .returned (.bool true) ∧ Ext w w' := by
  have hfew := hide (few_c l.length w)
  by_cases hl : l.length ≤ 60
  · rw [decide_eq_true hl] at hfew
    have hA := hide (fun w' (hX : Ext w w') => pieces_c l v w' (h.ext hX))
    have hB := hide (fun w' (hX : Ext w w') => refPieces_c l (by omega) v w' (h.ext hX))
    have hE := hide h
    obtain ⟨VA, acap, rfl, -, -, -⟩ := ew_form h
    clear h
    by_cases he : pcE (eds l) = 0
    · have hBk : Hid (∀ M : List Ve, eds M = pcR (eds l) → Hid (∀ v w', Ew w' [] v M → Calls Tryz.prog 17 #[v] w' fun e w'' => ∃ v' N, e = .returned (.tuple #[v', .int .i64 0]) ∧ eds N = eds l ∧ OwnEr w'' w'.heap.size v' N ∧ Ext w' w'')) := fun M hM v w' hW => by
        have h1 : mayE (eds l) = true ∧ tabE (eds l) = true ∧ (piecesL (grp (eds l))).length ≤ 4096 := by
          unfold pcE at he
          split at he
          · rename_i k1
            split at he
            · rename_i k2
              split at he
              · cases he
              · exact ⟨k1, k2, by omega⟩
            · cases he
          · cases he
        have h2 : pcR (eds l) = piecesL (grp (eds l)) := by unfold pcR; rw [if_pos he]
        obtain ⟨b1, b2⟩ := pk_back h1.2.1 h1.2.2
        rw [h2] at hM
        have hl : M.length ≤ 4096 := by
          have := congrArg List.length hM
          simp only [eds, List.length_map] at this
          have := h1.2.2
          simp only [eds] at this
          omega
        have hc := packEdges_c M hl v w' hW
        rw [hM, b1, b2] at hc
        exact hc
      rw [he] at hA hB
      generalize pcR (eds l) = R1 at *
      have hne : ((0 : Int) != 0) = false := by decide
      clear he
      go_enter Tryz.func4, Tryz.ntmps4
      go_wp2_with (first | (go_at_call 10; (with_reducible refine seq_gw hfew.out ?_); intro g0) | (go_at_call 14; refine (hA.out _ g0.grown).mono ?_; rintro ee w1 ⟨v1, M1, rfl, hM1, o1, x1⟩; have X1 := hide (g0.grown.trans x1); obtain ⟨AM1, cM1, qM1⟩ := own_form o1.1; subst qM1) | (go_at_call 15; refine (hB.out _ X1.out).mono ?_; rintro ee w2 ⟨v2, M2, rfl, hM2, o2, x2⟩; have X2 := hide (X1.out.trans x2); obtain ⟨AM2, cM2, qM2⟩ := own_form o2.1; subst qM2) | (go_at_call 16; (with_reducible refine seq_gw ((refPieceSame_c (o1.ext (x2)).ew (o2.ext (Ext.refl _)).ew).mono (R' := fun e w' => e = .returned (.bool true) ∧ Ext w2 w') (fun e w' ⟨h1, h2⟩ => ⟨by rw [h1, hM1, hM2]; simp, h2⟩)) ?_); intro g3) | (go_at_call 17; refine ((hBk.out M1 hM1).out _ _ (o1.ext (x2.trans g3.grown)).ew).mono ?_; rintro ee w4 ⟨v4, M4, rfl, hM4, o4, x4⟩; have X4 := hide ((X2.out.trans g3.grown).trans x4); obtain ⟨AM4, cM4, qM4⟩ := own_form o4.1; subst qM4) | (go_at_call 18; (with_reducible refine seq_gw ((refEdgeSame_c (L := M4) (M := l) (o4.ext g5.grown).ew (hE.out.ext (X4.out.trans g5.grown))).mono (R' := fun e w' => e = .returned (.bool true) ∧ Ext g5.val w') (fun e w' ⟨h1, h2⟩ => ⟨by rw [h1, hM4]; simp, h2⟩)) ?_); intro g6) | (go_at_call 11; first | ((with_reducible refine seq_gw' (pakLive_c _) ?_); intro g5) | ((with_reducible refine seq_gw (pakLive_c _) ?_); intro g5)))
      go_returns
      exact ⟨by first | rfl | simp, (X4.out.trans g5.grown).trans g6.grown⟩
    · have hne : (pcE (eds l) != 0) = true := by simp [he]
      generalize pcE (eds l) = E1 at *
      generalize pcR (eds l) = R1 at *
      have be : (E1 != E1) = false := by simp
      clear he
      go_enter Tryz.func4, Tryz.ntmps4
      go_wp2_with (first | (go_at_call 10; (with_reducible refine seq_gw hfew.out ?_); intro g0) | (go_at_call 14; refine (hA.out _ g0.grown).mono ?_; rintro ee w1 ⟨v1, M1, rfl, hM1, o1, x1⟩; have X1 := hide (g0.grown.trans x1); obtain ⟨AM1, cM1, qM1⟩ := own_form o1.1; subst qM1) | (go_at_call 15; refine (hB.out _ X1.out).mono ?_; rintro ee w2 ⟨v2, M2, rfl, hM2, o2, x2⟩; have X2 := hide (X1.out.trans x2); obtain ⟨AM2, cM2, qM2⟩ := own_form o2.1; subst qM2) | (go_at_call 16; (with_reducible refine seq_gw ((refPieceSame_c (o1.ext (x2)).ew (o2.ext (Ext.refl _)).ew).mono (R' := fun e w' => e = .returned (.bool true) ∧ Ext w2 w') (fun e w' ⟨h1, h2⟩ => ⟨by rw [h1, hM1, hM2]; simp, h2⟩)) ?_); intro g3) | (go_at_call 11; first | ((with_reducible refine seq_gw' (pakLive_c _) ?_); intro g5) | ((with_reducible refine seq_gw (pakLive_c _) ?_); intro g5)))
      go_returns
      exact ⟨by first | rfl | simp, X2.out.trans g5.grown⟩
  · rw [decide_eq_false hl] at hfew
    obtain ⟨VA, acap, rfl, -, -, -⟩ := ew_form h
    clear h hl
    go_enter Tryz.func4, Tryz.ntmps4
    go_wp2_with (first | (go_at_call 10; (with_reducible refine seq_gw hfew.out ?_); intro g0) | (go_at_call 11; first | ((with_reducible refine seq_gw' (pakLive_c _) ?_); intro g5) | ((with_reducible refine seq_gw (pakLive_c _) ?_); intro g5)))
    go_returns
    exact ⟨by first | rfl | simp, g5.grown⟩

theorem own : ownKnob Tryz.prog.godebug = none := by kernel_rfl
theorem laidOut : laidOutB Tryz.prog = true := by kernel_rfl
set_option maxRecDepth 100000 in
theorem lifted (os : Os) (started : os.Started) (H : Type) (enc : TypeId × Value → H) :
    ReturnsInHanded {} Tryz.checked os 4 .any (Rows.packPiecesSpec.pre6 enc Tryz.prog Tryz.f4 Rows.packPiecesRow.domain false) (Rows.packPiecesSpec.post enc Tryz.prog Tryz.f4 false true false false) := by
  refine returnsInHanded_of_change_sized (C := Tryz.checked) own started (by kernel_rfl) Tryz.func4
    (ChangeSpec.witness6 (enc := enc) (C := Tryz.checked) false ⟨#[], #[.slice none 0 0], []⟩ 8 (by kernel_rfl) (by kernel_rfl) (by kernel_rfl) (by kernel_rfl)) ?_
  intro W base args ds gs before hval0 hW hcnd hsz0 _
  have hsz : (DataW.weightsEach Tryz.prog (Tryz.f4.params.toList ++ Rows.packPiecesSpec.plain.varTypes Tryz.prog) (ds ++ gs)).all (· ≤ reachBytes) = true := hsz0
  clear hsz0
  have hval : ∀ (j : Nat) t v, Tryz.f4.params[j]? = some t → args[j]? = some v → Value.okWide Tryz.prog W .any base t v := hval0
  have hW' := hW
  obtain ⟨p, q, hA0, hV, rfl, hfz, hnd⟩ := hW
  have hA : DataW.TrodAll enc Tryz.prog W 0 (fun _ => true) true Tryz.f4.params.toList args.toList ds p := hA0
  rw [Tryz.params4] at hA hval hsz
  obtain ⟨v0, vs0, d0, ds0, p0, q0, hargs, rfl, rfl, h0, r0⟩ := trodAll_cons hA
  obtain ⟨rfl, rfl, rfl⟩ := trodAll_nil r0
  obtain rfl : args = #[v0] := by cases args; simp_all
  obtain ⟨rfl, rfl⟩ := trodVars_none hV
  have k0 := h0
  have lt0 : ∀ x ∈ p0, x.block < W.heap.size := by obtain ⟨m, hm⟩ := k0; exact DataW.trod_lt m _ _ _ hm
  obtain ⟨A0, n0, c0, rfl⟩ := okWide_slice Tryz.underlying32 (hval 0 32 v0 rfl rfl)
  have ⟨m0, hm0⟩ := h0
  obtain ⟨l, ll, hl⟩ := open_edges Tryz.underlying32 Tryz.underlying71 (by kernel_rfl) rfl rfl rfl (by kernel_rfl) (by kernel_rfl) (by kernel_rfl) Tryz.underlying46 Tryz.underlying3 Tryz.underlying3 Tryz.underlying85 (by kernel_rfl) rfl rfl rfl (by kernel_rfl) (by kernel_rfl) (by kernel_rfl) Tryz.underlying83 Tryz.underlying3 Tryz.underlying9 hm0
  have zl : l.length * 40 ≤ 140737488351232 := by rw [ll]; exact sized_elems hsz (j := 0) (t := 32) (e := 71) rfl rfl Tryz.underlying32 (by kernel_rfl)
  clear hA0 hval0
  refine (walk l _ W hl).mono fun e W' ⟨he, bel⟩ => ?_
  subst he
  exact ⟨_, rfl, _, _, _, [], _, [], hW', trodAll_mk1 (shut_bool Tryz.underlying4 _), (trodAll_cons_mk (Below.trod laidOut (by kernel_rfl) (of_decide_eq_true (by kernel_rfl)) k0 bel lt0) trodAll_mk0), rfl, bel.frame _, fun h => by cases h⟩

theorem over : Rows.packPiecesRow.holds Tryz.pinned (OpenSpec.ofChange Rows.packPiecesSpec) :=
  OpenClaim.holds_of_wide 4 Tryz.f4 rfl rfl rfl rfl rfl rfl rfl ⟨rfl, rfl, rfl, rfl, rfl⟩ rfl rfl rfl rfl rfl (by kernel_rfl) Tryz.func4 (by kernel_rfl)
    (of_decide_eq_true (by kernel_rfl)) (by unfold Func.isWrapper; first | (rw [if_pos (by decide +kernel)]; kernel_rfl) | (rw [if_neg (by decide +kernel)]; exact ⟨rfl, rfl⟩))
    (fun os started H enc _ => lifted os started H enc)

theorem packPieces_holds : Rows.PackPiecesSaid := over
end Go.Proofs.YtgniebjigphcgaaGreat.packPieces
