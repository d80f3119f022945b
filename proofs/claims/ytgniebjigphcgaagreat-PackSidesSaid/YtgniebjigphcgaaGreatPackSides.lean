/-
  Layer 11 (pack), 11.5: for every list of pieces (of which those of up to 500 count), and tick, what is cut of packed pieces is packed, on both sides of the tick, and ahead of it the pieces are those of the edges ahead of it. No condition.
-/
import Derived.Test.YtgniebjigphcgaaGreatPakJ
import Derived.Test.YtgniebjigphcgaaGreatPakV
import Derived.Test.YtgniebjigphcgaaGreatArgP
import Derived.Test.YtgniebjigphcgaaGreatEdgK
import Derived.WalkKit
import Derived.ProofKit
import Derived.OpenShut
import Derived.ShutString
import Derived.ChangeOld
import Derived.Below
import Derived.Lib.SmallJoins
import Derived.SizedLaws
import Derived.Deep.CondSized
import Derived.JoinedCond
set_option linter.unusedVariables false
set_option linter.unusedSimpArgs false
namespace Go.Proofs.YtgniebjigphcgaaGreat.packSides
open Go.ChangeShapes Go.WideShapes Go.ChangeAt Go.RowKit Go.Joins
open Go.ChangeMaps (open_string shut_string)
attribute [local go_sem] GW.cell GW.frozen In.eq_true In.le_true In.ne In.ne' In.ne_add In.ne_add' In.lt_add Upto.le_true Upto.le_add Upto.lt_add
set_option maxHeartbeats 8000000 in
set_option maxRecDepth 100000 in
theorem walk (l : List Ve) (t : Int) (v : Value) (w : World) (h : Ew w [] v l) : Calls Tryz.prog 9 #[v, .int .i64 t] w fun e w' => e = .returned (.bool true) ∧ Ext w w' := by
  by_cases hl : l.length ≤ 500
  · have hlI : ¬ (500 : Int) < l.length := by omega
    by_cases ht1 : t < 0
    · have d1 : decide (t < 0) = true := decide_eq_true ht1
      obtain ⟨VA, acap, rfl, -, -, -⟩ := ew_form h
      clear h
      go_enter Tryz.func9, Tryz.ntmps9
      go_wp2_with (go_at_call 11; first | ((with_reducible refine seq_gw' (pakLive_c _) ?_); intro g5) | ((with_reducible refine seq_gw (pakLive_c _) ?_); intro g5))
      go_returns
      exact ⟨by first | rfl | simp, g5.grown⟩
    have d1 : decide (t < 0) = false := decide_eq_false ht1
    by_cases ht2 : 1125899906842624 < t
    · have d2 : decide (1125899906842624 < t) = true := decide_eq_true ht2
      obtain ⟨VA, acap, rfl, -, -, -⟩ := ew_form h
      clear h
      go_enter Tryz.func9, Tryz.ntmps9
      go_wp2_with (go_at_call 11; first | ((with_reducible refine seq_gw' (pakLive_c _) ?_); intro g5) | ((with_reducible refine seq_gw (pakLive_c _) ?_); intro g5))
      go_returns
      exact ⟨by first | rfl | simp, g5.grown⟩
    have d2 : decide (1125899906842624 < t) = false := decide_eq_false ht2
    have hA := hide (fun w' (hX : Ext w w') => packPack_c l (by omega) v w' (h.ext hX))
    rw [pp_eq] at hA
    obtain ⟨VA, acap, rfl, -, -, -⟩ := ew_form h
    clear h
    have hel : (eds l).length ≤ 500 := by simpa [eds] using hl
    by_cases he : pkE (eds l) = 0
    · rw [he] at hA
      obtain ⟨c1, c2, -, c3, -⟩ := pack_cut he (by omega) (pcAh t) (spAh t) (fun e => by unfold pcAh; exact pcAh_sp t e) (spAh_len t) (fun S hS => ah_ok hS t (by omega) (by omega))
      obtain ⟨r1, r2, -, r3, -⟩ := pack_cut he (by omega) (pcRe t) (spRe t) (fun e => by unfold pcRe; exact pcRe_sp t e) (spRe_len t) (fun S hS => re_ok hS t (by omega) (by omega))
      obtain ⟨b1, b2⟩ := pk_back (pk_tab he) (by have := pieces_len he; omega)
      rw [← pp_ok he] at b1 b2
      have hpl : (ppR (eds l)).length ≤ 500 := by have := (pp_once he (List.Perm.refl _)).2.2; omega
      have hpm : (ppR (eds l)).all mayPc = true := by rw [pp_ok he]; exact pieces_may (pk_tab he)
      have hz := hide (fun (k1 : mpE (ahOp t) (pkR (eds l)) = 0) (k2 : pcE (mpR (ahOp t) (pkR (eds l))) = 0) => pieces_ahead he t (by omega) (by omega) k1 k2 (pcAh t) (fun e => by unfold pcAh; exact pcAh_sp t e))
      have hM5l : ∀ (M : List Ve) (X : List Ed), eds M = X → X.length ≤ 500 → M.length ≤ 4096 := fun M X hM hl => by
        rw [← hM] at hl
        simp only [eds, List.length_map] at hl
        omega
      have hF1 : Hid (∀ M : List Ve, eds M = ppR (eds l) →
          (∀ v w', Ew w' [] v M → Calls Tryz.prog 17 #[v] w' fun e w'' => ∃ v' N, e = .returned (.tuple #[v', .int .i64 0]) ∧ eds N = pkR (eds l) ∧ OwnEr w'' w'.heap.size v' N ∧ Ext w' w'') ∧
          (∀ v w', Ew w' [] v M → Calls Tryz.prog 28 #[v, .int .i64 t] w' fun e w'' => ∃ v' N, e = .returned v' ∧ eds N = (ppR (eds l)).flatMap (pcAh t) ∧ OwnPr w'' w'.heap.size v' N ∧ Ext w' w'') ∧
          (∀ v w', Ew w' [] v M → Calls Tryz.prog 30 #[v, .int .i64 t] w' fun e w'' => ∃ v' N, e = .returned v' ∧ eds N = (ppR (eds l)).flatMap (pcRe t) ∧ OwnPr w'' w'.heap.size v' N ∧ Ext w' w'')) := fun M hM => by
        have hml := hM5l M _ hM hpl
        have hr : ∀ p ∈ M, p.2.1.length * 32 ≤ 140737488351232 := fun p hp => by
          have h1 : p.2 ∈ eds M := List.mem_map_of_mem hp
          rw [hM] at h1
          have := mayR_len (mayPc_sp (List.all_eq_true.1 hpm _ h1)).1
          omega
        refine ⟨fun v w' hW => ?_, fun v w' hW => ?_, fun v w' hW => ?_⟩
        · have hc := packEdges_c M hml v w' hW
          rw [hM, b1, b2] at hc
          exact hc
        · have hc := packAhead_c M t (by omega) hr v w' hW
          rw [hM] at hc
          exact hc
        · have hc := packRest_c M t (by omega) hr v w' hW
          rw [hM] at hc
          exact hc
      have hF2 : Hid (∀ M : List Ve, eds M = pkR (eds l) → ∀ v w', Ew w' [] v M → Calls Tryz.prog 32 #[v, .int .i64 t] w' fun e w'' => ∃ v' N, e = .returned (.tuple #[v', .int .i64 (mpE (ahOp t) (pkR (eds l)))]) ∧ eds N = mpR (ahOp t) (pkR (eds l)) ∧ OwnEr w'' w'.heap.size v' N ∧ Ext w' w'') := fun M hM v w' hW => by
        have hc := edgeAhead_c M t v w' hW
        rw [hM] at hc
        exact hc
      have hF3 : Hid (∀ M : List Ve, eds M = mpR (ahOp t) (pkR (eds l)) → ∀ v w', Ew w' [] v M → Calls Tryz.prog 14 #[v] w' fun e w'' => ∃ v' N, e = .returned (.tuple #[v', .int .i64 (pcE (mpR (ahOp t) (pkR (eds l))))]) ∧ eds N = pcR (mpR (ahOp t) (pkR (eds l))) ∧ OwnPr w'' w'.heap.size v' N ∧ Ext w' w'') := fun M hM v w' hW => by
        have hc := pieces_c M v w' hW
        rw [hM] at hc
        exact hc
      have hF5 : Hid (∀ M : List Ve, eds M = (ppR (eds l)).flatMap (pcAh t) → ∀ v w', Ew w' [] v M → Calls Tryz.prog 20 #[v] w' fun e w'' => ∃ v' N, e = .returned (.tuple #[v', .int .i64 0]) ∧ eds N = (ppR (eds l)).flatMap (pcAh t) ∧ OwnPr w'' w'.heap.size v' N ∧ Ext w' w'') := fun M hM v w' hW => by
        have hc := packPack_c M (hM5l M _ hM (by omega)) v w' hW
        rw [hM, c1, c2] at hc
        exact hc
      have hF7 : Hid (∀ M : List Ve, eds M = (ppR (eds l)).flatMap (pcRe t) → ∀ v w', Ew w' [] v M → Calls Tryz.prog 20 #[v] w' fun e w'' => ∃ v' N, e = .returned (.tuple #[v', .int .i64 0]) ∧ eds N = (ppR (eds l)).flatMap (pcRe t) ∧ OwnPr w'' w'.heap.size v' N ∧ Ext w' w'') := fun M hM v w' hW => by
        have hc := packPack_c M (hM5l M _ hM (by omega)) v w' hW
        rw [hM, r1, r2] at hc
        exact hc
      clear c1 c2 c3 r1 r2 r3 b1 b2 hpl hpm hM5l
      obtain ⟨CU, hCU⟩ : ∃ X, X = (ppR (eds l)).flatMap (pcAh t) := ⟨_, rfl⟩
      obtain ⟨RE, hRE⟩ : ∃ X, X = (ppR (eds l)).flatMap (pcRe t) := ⟨_, rfl⟩
      rw [← hCU] at hF1 hF5 hz
      rw [← hRE] at hF1 hF7
      clear hCU hRE
      generalize ppR (eds l) = R1 at *
      generalize pkR (eds l) = R2 at *
      generalize mpR (ahOp t) R2 = Y at *
      have hne : ((0 : Int) != 0) = false := by decide
      clear he hel
      by_cases hg : mpE (ahOp t) R2 = 0
      · by_cases hh : pcE Y = 0
        · have hzz := hz.out hg hh
          rw [hg] at hF2
          rw [hh, hzz] at hF3
          clear hz hzz hg hh
          go_enter Tryz.func9, Tryz.ntmps9
          go_wp2_with (first | (go_at_call 20; (with_reducible refine (hA.out _ (Ext.refl _)).mono ?_); rintro ee w1 ⟨v1, M1, rfl, hM1, o1, x1⟩; have X1 := hide ((Ext.refl w).trans x1); obtain ⟨AM1, cM1, qM1⟩ := own_form o1.1; subst qM1; replace hM1 := hide hM1; have hP1 := hide (hF1.out M1 hM1.out); have z1 := hide x1) | (go_at_call 17; (with_reducible refine (hP1.out.1 _ _ o1.ew).mono ?_); rintro ee w2 ⟨v2, M2, rfl, hM2, o2, x2⟩; have X2 := hide (X1.out.trans x2); obtain ⟨AM2, cM2, qM2⟩ := own_form o2.1; subst qM2; replace hM2 := hide hM2; have hP2 := hide (hF2.out M2 hM2.out)) | (go_at_call 32; (with_reducible refine (hP2.out _ _ o2.ew).mono ?_); rintro ee w3 ⟨v3, M3, rfl, hM3, o3, x3⟩; have X3 := hide (X2.out.trans x3); obtain ⟨AM3, cM3, qM3⟩ := own_form o3.1; subst qM3; replace hM3 := hide hM3; have hP3 := hide (hF3.out M3 hM3.out)) | (go_at_call 14; (with_reducible refine (hP3.out _ _ o3.ew).mono ?_); rintro ee w4 ⟨v4, M4, rfl, hM4, o4, x4⟩; have X4 := hide (X3.out.trans x4); obtain ⟨AM4, cM4, qM4⟩ := own_form o4.1; subst qM4; replace hM4 := hide hM4; have z4 := hide (x2.trans (x3.trans x4))) | (go_at_call 28; (with_reducible refine (hP1.out.2.1 _ _ (o1.ext z4.out).ew).mono ?_); rintro ee w5 ⟨v5, M5, rfl, hM5, o5, x5⟩; have X5 := hide (X4.out.trans x5); obtain ⟨AM5, cM5, qM5⟩ := own_form o5.1; subst qM5; replace hM5 := hide hM5; have hP5 := hide (hF5.out M5 hM5.out)) | (go_at_call 20; (with_reducible refine (hP5.out _ _ o5.ew).mono ?_); rintro ee w6 ⟨v6, M6, rfl, hM6, o6, x6⟩; have X6 := hide (X5.out.trans x6); obtain ⟨AM6, cM6, qM6⟩ := own_form o6.1; subst qM6; replace hM6 := hide hM6; have z6 := hide (z4.out.trans (x5.trans x6))) | (go_at_call 30; (with_reducible refine (hP1.out.2.2 _ _ (o1.ext z6.out).ew).mono ?_); rintro ee w7 ⟨v7, M7, rfl, hM7, o7, x7⟩; have X7 := hide (X6.out.trans x7); obtain ⟨AM7, cM7, qM7⟩ := own_form o7.1; subst qM7; replace hM7 := hide hM7; have hP7 := hide (hF7.out M7 hM7.out)) | (go_at_call 20; (with_reducible refine (hP7.out _ _ o7.ew).mono ?_); rintro ee w8 ⟨v8, M8, rfl, hM8, o8, x8⟩; have X8 := hide (X7.out.trans x8); obtain ⟨AM8, cM8, qM8⟩ := own_form o8.1; subst qM8; replace hM8 := hide hM8; have z8 := hide (x6.trans (x7.trans x8)); have z7 := hide (x7.trans x8)) | (go_at_call 16; (with_reducible refine seq_gw ((refPieceSame_c (o4.ext (x5.trans z8.out)).ew (o5.ext (z8.out)).ew).mono (R' := fun e w' => e = .returned (.bool true) ∧ Ext w8 w') (fun e w' ⟨h1, h2⟩ => ⟨by rw [h1, hM4.out, hM5.out]; simp, h2⟩)) ?_); intro g8) | (go_at_call 16; (with_reducible refine seq_gw ((refPieceSame_c (o6.ext ((z7.out).trans g9.grown)).ew (o5.ext (((z8.out)).trans g9.grown)).ew).mono (R' := fun e w' => e = .returned (.bool true) ∧ Ext g9.val w') (fun e w' ⟨h1, h2⟩ => ⟨by rw [h1, hM6.out, hM5.out]; simp, h2⟩)) ?_); intro g10) | (go_at_call 16; (with_reducible refine seq_gw ((refPieceSame_c (o8.ext ((((Ext.refl _)).trans g9.grown).trans g10.grown)).ew (o7.ext ((((x8)).trans g9.grown).trans g10.grown)).ew).mono (R' := fun e w' => e = .returned (.bool true) ∧ Ext g10.val w') (fun e w' ⟨h1, h2⟩ => ⟨by rw [h1, hM8.out, hM7.out]; simp, h2⟩)) ?_); intro g11) | (go_at_call 11; first | ((with_reducible refine seq_gw' (pakLive_c _) ?_); intro g9) | ((with_reducible refine seq_gw (pakLive_c _) ?_); intro g9)))
          go_returns
          exact ⟨by first | rfl | simp, (((X8.out).trans g9.grown).trans g10.grown).trans g11.grown⟩
        · rw [hg] at hF2
          have hhb : (pcE Y == 0) = false := by simp [hh]
          generalize pcE Y = HE at *
          generalize pcR Y = HR at *
          clear hz hg hh
          go_enter Tryz.func9, Tryz.ntmps9
          go_wp2_with (first | (go_at_call 20; (with_reducible refine (hA.out _ (Ext.refl _)).mono ?_); rintro ee w1 ⟨v1, M1, rfl, hM1, o1, x1⟩; have X1 := hide ((Ext.refl w).trans x1); obtain ⟨AM1, cM1, qM1⟩ := own_form o1.1; subst qM1; replace hM1 := hide hM1; have hP1 := hide (hF1.out M1 hM1.out); have z1 := hide x1) | (go_at_call 17; (with_reducible refine (hP1.out.1 _ _ o1.ew).mono ?_); rintro ee w2 ⟨v2, M2, rfl, hM2, o2, x2⟩; have X2 := hide (X1.out.trans x2); obtain ⟨AM2, cM2, qM2⟩ := own_form o2.1; subst qM2; replace hM2 := hide hM2; have hP2 := hide (hF2.out M2 hM2.out)) | (go_at_call 32; (with_reducible refine (hP2.out _ _ o2.ew).mono ?_); rintro ee w3 ⟨v3, M3, rfl, hM3, o3, x3⟩; have X3 := hide (X2.out.trans x3); obtain ⟨AM3, cM3, qM3⟩ := own_form o3.1; subst qM3; replace hM3 := hide hM3; have hP3 := hide (hF3.out M3 hM3.out)) | (go_at_call 14; (with_reducible refine (hP3.out _ _ o3.ew).mono ?_); rintro ee w4 ⟨v4, M4, rfl, hM4, o4, x4⟩; have X4 := hide (X3.out.trans x4); obtain ⟨AM4, cM4, qM4⟩ := own_form o4.1; subst qM4; replace hM4 := hide hM4; have z4 := hide (x2.trans (x3.trans x4))) | (go_at_call 28; (with_reducible refine (hP1.out.2.1 _ _ (o1.ext z4.out).ew).mono ?_); rintro ee w5 ⟨v5, M5, rfl, hM5, o5, x5⟩; have X5 := hide (X4.out.trans x5); obtain ⟨AM5, cM5, qM5⟩ := own_form o5.1; subst qM5; replace hM5 := hide hM5; have hP5 := hide (hF5.out M5 hM5.out)) | (go_at_call 20; (with_reducible refine (hP5.out _ _ o5.ew).mono ?_); rintro ee w6 ⟨v6, M6, rfl, hM6, o6, x6⟩; have X6 := hide (X5.out.trans x6); obtain ⟨AM6, cM6, qM6⟩ := own_form o6.1; subst qM6; replace hM6 := hide hM6; have z6 := hide (z4.out.trans (x5.trans x6))) | (go_at_call 30; (with_reducible refine (hP1.out.2.2 _ _ (o1.ext z6.out).ew).mono ?_); rintro ee w7 ⟨v7, M7, rfl, hM7, o7, x7⟩; have X7 := hide (X6.out.trans x7); obtain ⟨AM7, cM7, qM7⟩ := own_form o7.1; subst qM7; replace hM7 := hide hM7; have hP7 := hide (hF7.out M7 hM7.out)) | (go_at_call 20; (with_reducible refine (hP7.out _ _ o7.ew).mono ?_); rintro ee w8 ⟨v8, M8, rfl, hM8, o8, x8⟩; have X8 := hide (X7.out.trans x8); obtain ⟨AM8, cM8, qM8⟩ := own_form o8.1; subst qM8; replace hM8 := hide hM8; have z8 := hide (x6.trans (x7.trans x8)); have z7 := hide (x7.trans x8)) | (go_at_call 16; (with_reducible refine seq_gw ((refPieceSame_c (o6.ext ((z7.out).trans g9.grown)).ew (o5.ext ((z8.out).trans g9.grown)).ew).mono (R' := fun e w' => e = .returned (.bool true) ∧ Ext g9.val w') (fun e w' ⟨h1, h2⟩ => ⟨by rw [h1, hM6.out, hM5.out]; simp, h2⟩)) ?_); intro g10) | (go_at_call 16; (with_reducible refine seq_gw ((refPieceSame_c (o8.ext (((Ext.refl _).trans g9.grown).trans g10.grown)).ew (o7.ext (((x8).trans g9.grown).trans g10.grown)).ew).mono (R' := fun e w' => e = .returned (.bool true) ∧ Ext g10.val w') (fun e w' ⟨h1, h2⟩ => ⟨by rw [h1, hM8.out, hM7.out]; simp, h2⟩)) ?_); intro g11) | (go_at_call 11; first | ((with_reducible refine seq_gw' (pakLive_c _) ?_); intro g9) | ((with_reducible refine seq_gw (pakLive_c _) ?_); intro g9)))
          go_returns
          exact ⟨by first | rfl | simp, ((X8.out.trans g9.grown).trans g10.grown).trans g11.grown⟩
      · have hgb : (mpE (ahOp t) R2 == 0) = false := by simp [hg]
        generalize mpE (ahOp t) R2 = GE at *
        generalize pcE Y = HE at *
        generalize pcR Y = HR at *
        clear hz hg
        go_enter Tryz.func9, Tryz.ntmps9
        go_wp2_with (first | (go_at_call 20; (with_reducible refine (hA.out _ (Ext.refl _)).mono ?_); rintro ee w1 ⟨v1, M1, rfl, hM1, o1, x1⟩; have X1 := hide ((Ext.refl w).trans x1); obtain ⟨AM1, cM1, qM1⟩ := own_form o1.1; subst qM1; replace hM1 := hide hM1; have hP1 := hide (hF1.out M1 hM1.out); have z1 := hide x1) | (go_at_call 17; (with_reducible refine (hP1.out.1 _ _ o1.ew).mono ?_); rintro ee w2 ⟨v2, M2, rfl, hM2, o2, x2⟩; have X2 := hide (X1.out.trans x2); obtain ⟨AM2, cM2, qM2⟩ := own_form o2.1; subst qM2; replace hM2 := hide hM2; have hP2 := hide (hF2.out M2 hM2.out)) | (go_at_call 32; (with_reducible refine (hP2.out _ _ o2.ew).mono ?_); rintro ee w3 ⟨v3, M3, rfl, hM3, o3, x3⟩; have X3 := hide (X2.out.trans x3); obtain ⟨AM3, cM3, qM3⟩ := own_form o3.1; subst qM3; replace hM3 := hide hM3; have hP3 := hide (hF3.out M3 hM3.out)) | (go_at_call 14; (with_reducible refine (hP3.out _ _ o3.ew).mono ?_); rintro ee w4 ⟨v4, M4, rfl, hM4, o4, x4⟩; have X4 := hide (X3.out.trans x4); obtain ⟨AM4, cM4, qM4⟩ := own_form o4.1; subst qM4; replace hM4 := hide hM4; have z4 := hide (x2.trans (x3.trans x4))) | (go_at_call 28; (with_reducible refine (hP1.out.2.1 _ _ (o1.ext z4.out).ew).mono ?_); rintro ee w5 ⟨v5, M5, rfl, hM5, o5, x5⟩; have X5 := hide (X4.out.trans x5); obtain ⟨AM5, cM5, qM5⟩ := own_form o5.1; subst qM5; replace hM5 := hide hM5; have hP5 := hide (hF5.out M5 hM5.out)) | (go_at_call 20; (with_reducible refine (hP5.out _ _ o5.ew).mono ?_); rintro ee w6 ⟨v6, M6, rfl, hM6, o6, x6⟩; have X6 := hide (X5.out.trans x6); obtain ⟨AM6, cM6, qM6⟩ := own_form o6.1; subst qM6; replace hM6 := hide hM6; have z6 := hide (z4.out.trans (x5.trans x6))) | (go_at_call 30; (with_reducible refine (hP1.out.2.2 _ _ (o1.ext z6.out).ew).mono ?_); rintro ee w7 ⟨v7, M7, rfl, hM7, o7, x7⟩; have X7 := hide (X6.out.trans x7); obtain ⟨AM7, cM7, qM7⟩ := own_form o7.1; subst qM7; replace hM7 := hide hM7; have hP7 := hide (hF7.out M7 hM7.out)) | (go_at_call 20; (with_reducible refine (hP7.out _ _ o7.ew).mono ?_); rintro ee w8 ⟨v8, M8, rfl, hM8, o8, x8⟩; have X8 := hide (X7.out.trans x8); obtain ⟨AM8, cM8, qM8⟩ := own_form o8.1; subst qM8; replace hM8 := hide hM8; have z8 := hide (x6.trans (x7.trans x8)); have z7 := hide (x7.trans x8)) | (go_at_call 16; (with_reducible refine seq_gw ((refPieceSame_c (o6.ext ((z7.out).trans g9.grown)).ew (o5.ext ((z8.out).trans g9.grown)).ew).mono (R' := fun e w' => e = .returned (.bool true) ∧ Ext g9.val w') (fun e w' ⟨h1, h2⟩ => ⟨by rw [h1, hM6.out, hM5.out]; simp, h2⟩)) ?_); intro g10) | (go_at_call 16; (with_reducible refine seq_gw ((refPieceSame_c (o8.ext (((Ext.refl _).trans g9.grown).trans g10.grown)).ew (o7.ext (((x8).trans g9.grown).trans g10.grown)).ew).mono (R' := fun e w' => e = .returned (.bool true) ∧ Ext g10.val w') (fun e w' ⟨h1, h2⟩ => ⟨by rw [h1, hM8.out, hM7.out]; simp, h2⟩)) ?_); intro g11) | (go_at_call 11; first | ((with_reducible refine seq_gw' (pakLive_c _) ?_); intro g9) | ((with_reducible refine seq_gw (pakLive_c _) ?_); intro g9)))
        go_returns
        exact ⟨by first | rfl | simp, ((X8.out.trans g9.grown).trans g10.grown).trans g11.grown⟩
    · have hne : (pkE (eds l) != 0) = true := by simp [he]
      have hM1X : True := trivial
      generalize pkE (eds l) = E1 at *
      generalize ppR (eds l) = R1 at *
      clear he hel
      go_enter Tryz.func9, Tryz.ntmps9
      go_wp2_with (first | (go_at_call 20; (with_reducible refine (hA.out _ (Ext.refl _)).mono ?_); rintro ee w1 ⟨v1, M1, rfl, hM1, o1, x1⟩; have X1 := hide ((Ext.refl w).trans x1); obtain ⟨AM1, cM1, qM1⟩ := own_form o1.1; subst qM1) | (go_at_call 11; first | ((with_reducible refine seq_gw' (pakLive_c _) ?_); intro g5) | ((with_reducible refine seq_gw (pakLive_c _) ?_); intro g5)))
      go_returns
      exact ⟨by first | rfl | simp, X1.out.trans g5.grown⟩
  · have hlI : (500 : Int) < l.length := by omega
    obtain ⟨VA, acap, rfl, -, -, -⟩ := ew_form h
    clear h hl
    go_enter Tryz.func9, Tryz.ntmps9
    go_wp2_with (go_at_call 11; first | ((with_reducible refine seq_gw' (pakLive_c _) ?_); intro g5) | ((with_reducible refine seq_gw (pakLive_c _) ?_); intro g5))
    go_returns
    exact ⟨by first | rfl | simp, g5.grown⟩

theorem own : ownKnob Tryz.prog.godebug = none := by kernel_rfl
theorem laidOut : laidOutB Tryz.prog = true := by kernel_rfl
set_option maxRecDepth 100000 in
theorem lifted (os : Os) (started : os.Started) (H : Type) (enc : TypeId × Value → H) :
    ReturnsInHanded {} Tryz.checked os 9 .any (Rows.packSidesSpec.pre6 enc Tryz.prog Tryz.f9 Rows.packSidesRow.domain false) (Rows.packSidesSpec.post enc Tryz.prog Tryz.f9 false true false false) := by
  refine returnsInHanded_of_change_sized (C := Tryz.checked) own started (by kernel_rfl) Tryz.func9
    (ChangeSpec.witness6 (enc := enc) (C := Tryz.checked) false ⟨#[], #[.slice none 0 0, .int .i64 0], []⟩ 8 (by kernel_rfl) (by kernel_rfl) (by kernel_rfl) (by kernel_rfl)) ?_
  intro W base args ds gs before hval0 hW hcnd hsz0 _
  have hsz : (DataW.weightsEach Tryz.prog (Tryz.f9.params.toList ++ Rows.packSidesSpec.plain.varTypes Tryz.prog) (ds ++ gs)).all (· ≤ reachBytes) = true := hsz0
  clear hsz0
  have hval : ∀ (j : Nat) t v, Tryz.f9.params[j]? = some t → args[j]? = some v → Value.okWide Tryz.prog W .any base t v := hval0
  have hW' := hW
  obtain ⟨p, q, hA0, hV, rfl, hfz, hnd⟩ := hW
  have hA : DataW.TrodAll enc Tryz.prog W 0 (fun _ => true) true Tryz.f9.params.toList args.toList ds p := hA0
  rw [Tryz.params9] at hA hval hsz
  obtain ⟨v0, vs0, d0, ds0, p0, q0, hargs, rfl, rfl, h0, r0⟩ := trodAll_cons hA
  obtain ⟨v1, vs1, d1, ds1, p1, q1, rfl, rfl, rfl, h1, r1⟩ := trodAll_cons r0
  obtain ⟨rfl, rfl, rfl⟩ := trodAll_nil r1
  obtain rfl : args = #[v0, v1] := by cases args; simp_all
  obtain ⟨rfl, rfl⟩ := trodVars_none hV
  have k0 := h0
  have lt0 : ∀ x ∈ p0, x.block < W.heap.size := by obtain ⟨m, hm⟩ := k0; exact DataW.trod_lt m _ _ _ hm
  obtain ⟨A0, n0, c0, rfl⟩ := okWide_slice Tryz.underlying33 (hval 0 33 v0 rfl rfl)
  have ⟨m0, hm0⟩ := h0
  obtain ⟨l, ll, hl, bl⟩ := open_pieces Tryz.underlying33 Tryz.underlying48 (by kernel_rfl) rfl rfl (by kernel_rfl) (by kernel_rfl) Tryz.underlying46 Tryz.underlying30 rfl rfl (by kernel_rfl) (by kernel_rfl) Tryz.underlying3 Tryz.underlying3 Tryz.underlying85 (by kernel_rfl) rfl rfl rfl (by kernel_rfl) (by kernel_rfl) (by kernel_rfl) Tryz.underlying83 Tryz.underlying3 Tryz.underlying9 hm0
  have yl : ∀ p ∈ l, p.2.1.length * 32 ≤ 140737488351232 := fun p hp => by
    have e32 : Tryz.prog.bytesOf 85 = 32 := by kernel_rfl
    rcases bl p hp with h0 | ⟨d, hd, hle⟩
    · omega
    · have := List.all_eq_true.1 hsz d (DataW.weights_mem_each (j := 0) (t := 33) rfl rfl d hd)
      rw [decide_eq_true_iff] at this
      rw [e32] at hle
      exact Nat.le_trans hle this
  have zl : l.length * 40 ≤ 140737488351232 := by rw [ll]; exact sized_elems hsz (j := 0) (t := 33) (e := 48) rfl rfl Tryz.underlying33 (by kernel_rfl)
  have k1 := h1
  have lt1 : ∀ x ∈ p1, x.block < W.heap.size := by obtain ⟨m, hm⟩ := k1; exact DataW.trod_lt m _ _ _ hm
  obtain ⟨t, rfl, _, _, wt⟩ := open_int Tryz.underlying3 (hval 1 3 v1 rfl rfl) h1
  have ht := wf_i64 wt
  clear hA0 hval0
  refine (walk l t _ W hl).mono fun e W' ⟨he, bel⟩ => ?_
  subst he
  exact ⟨_, rfl, _, _, _, [], _, [], hW', trodAll_mk1 (shut_bool Tryz.underlying4 _), (trodAll_cons_mk (Below.trod laidOut (by kernel_rfl) (of_decide_eq_true (by kernel_rfl)) k0 bel lt0) (trodAll_cons_mk (Below.trod laidOut (by kernel_rfl) (of_decide_eq_true (by kernel_rfl)) k1 bel lt1) trodAll_mk0)), rfl, bel.frame _, fun h => by cases h⟩

theorem over : Rows.packSidesRow.holds Tryz.pinned (OpenSpec.ofChange Rows.packSidesSpec) :=
  OpenClaim.holds_of_wide 9 Tryz.f9 rfl rfl rfl rfl rfl rfl rfl ⟨rfl, rfl, rfl, rfl, rfl⟩ rfl rfl rfl rfl rfl (by kernel_rfl) Tryz.func9 (by kernel_rfl)
    (of_decide_eq_true (by kernel_rfl)) (by unfold Func.isWrapper; first | (rw [if_pos (by decide +kernel)]; kernel_rfl) | (rw [if_neg (by decide +kernel)]; exact ⟨rfl, rfl⟩))
    (fun os started H enc _ => lifted os started H enc)

theorem packSides_holds : Rows.PackSidesSaid := over
end Go.Proofs.YtgniebjigphcgaaGreat.packSides
