/-
  Layer 10 (edge), 10.2: each row's function, and the edges that are made of one, are those that the document says: for every list of edges (of which those of up to 60 count), row, and jumps. No condition.
-/
import Derived.Test.YtpiehlfpkfbckaaGreatEdgL
import Derived.Test.YtpiehlfpkfbckaaGreatArgE
import Derived.Test.YtpiehlfpkfbckaaGreatEdgMp
import Derived.WalkKit
import Derived.ProofKit
import Derived.OpenShut
import Derived.ShutString
import Derived.ChangeOld
import Derived.Below
import Derived.Lib.SmallJoins
import Derived.SizedLaws
import Derived.Deep.CondSized
import Derived.JoinedCond
set_option linter.unusedVariables false
set_option linter.unusedSimpArgs false
namespace Go.Proofs.YtpiehlfpkfbckaaGreat.edgeRows
open Go.ChangeShapes Go.WideShapes Go.ChangeAt Go.RowKit Go.Joins
open Go.ChangeMaps (open_string shut_string)
attribute [local go_sem] GW.cell GW.frozen In.eq_true In.le_true In.ne In.ne' In.ne_add In.ne_add' In.lt_add Upto.le_true Upto.le_add Upto.lt_add

set_option maxHeartbeats 1000000 in
theorem few_c (L : List Ve) (v : Value) (w : World) (h : Ew w [] v L) : Calls Tryz.prog 10 #[v] w fun e w' => e = .returned (.bool (decide (L.length ≤ 60))) ∧ Ext w w' := by
  obtain ⟨A, cap, rfl, -, -, -⟩ := ew_form h
  clear h
  by_cases hl : L.length ≤ 60
  · have hI : (L.length : Int) ≤ 60 := by omega
    rw [decide_eq_true hl]
    go_enter Tryz.func10, Tryz.ntmps10
    go_wp2_with fail
    go_returns
    exact ⟨by first | rfl | simp, Ext.refl w⟩
  · have hI : ¬ (L.length : Int) ≤ 60 := by omega
    rw [decide_eq_false hl]
    go_enter Tryz.func10, Tryz.ntmps10
    go_wp2_with fail
    go_returns
    exact ⟨by first | rfl | simp, Ext.refl w⟩

set_option maxHeartbeats 8000000 in
set_option maxRecDepth 100000 in
theorem walk (l : List Ve) (r : List Vl) (f : List Jp) (v1 v2 v3 : Value) (w : World) (hl : Ew w [] v1 l) (hr : Rw w [] v2 r) (hf : Jw w [] v3 f) : Calls Tryz.prog 5 #[v1, v2, v3] w fun e w' => e = .returned (.bool true) ∧ Ext w w' := by
  have hfew := hide (few_c l v1 w hl)
  have hl' := hide hl
  have hr' := hide hr
  have hf' := hide hf
  obtain ⟨VA, acap, rfl, -, -, -⟩ := ew_form hl
  obtain ⟨VB, bcap, rfl⟩ := rw_val hr
  obtain ⟨VC, ccap, rfl, -, -, -⟩ := jw_form hf
  clear hl hr hf
  by_cases la : l.length ≤ 60
  · rw [decide_eq_true la] at hfew
    have hM := hide (fun w' (hX : Ext w w') => refEdgeMay_c l _ w' (hl'.out.ext hX))
    have hR := hide (fun w' (hX : Ext w w') => refRowMay_c r _ w' (Sl.ext hr'.out hX))
    have hJ := hide (fun w' (hX : Ext w w') => refStepMay_c f _ w' (Sl.ext hf'.out hX))
    have hC1 := hide (fun w' (hX : Ext w w') => edgeJumps_c l r _ _ w' (hl'.out.ext hX) (Sl.ext hr'.out hX))
    have hC2 := hide (fun w' (hX : Ext w w') => edgeBuild_c r f _ _ w' (Sl.ext hr'.out hX) (Sl.ext hf'.out hX))
    have hD1 := hide (fun w' (hX : Ext w w') => refJumps_c l r _ _ w' (hl'.out.ext hX) (Sl.ext hr'.out hX) (by omega))
    have hD2 := hide (fun (h8 : r.length ≤ 1000000000) (h9 : f.length ≤ 1000000000) w' (hX : Ext w w') => refPut_c r f _ _ w' (Sl.ext hr'.out hX) h8 (Sl.ext hf'.out hX) h9)
    have hnoJ := hide (fun (h : mayE (eds l) = true) (h2 : mayR r = false) => (show jmps (eds l) r = [] from by
      apply List.eq_nil_iff_forall_not_mem.2
      intro j hj
      have := (mayE_rise h).1 _ (jmps_mem.1 hj)
      rw [h2] at this; cases this))
    have hlen1 := hide (fun (h : mayR r = true) (h2 : mayJ f = true) => And.intro (Nat.le_trans (mayR_len h) (by omega : 8 ≤ 1000000000)) (Nat.le_trans (mayJ_len h2) (by omega : 1024 ≤ 1000000000)))
    cases e1 : mayE (eds l) <;> cases e2 : mayR r <;> cases e3 : mayJ f
    · rw [e1] at hM hC1
      rw [e2] at hR hC2
      rw [e3] at hJ hC2
      simp only [if_true, if_false, Bool.and_true, Bool.true_and, Bool.and_false, Bool.false_and, Bool.false_eq_true] at hC1 hC2
      replace e1 := hide e1
      replace e2 := hide e2
      replace e3 := hide e3
      have hlitJ := hide (fun (W : World) => World.ownsRow_lit (base := W.heap.size) (e := 72) (size := 2) W #[] 0 (Nat.le_refl _) (by decide) rfl)
      have hlitE := hide (fun (W : World) => World.ownsRow_lit (base := W.heap.size) (e := 56) (size := 3) W #[] 0 (Nat.le_refl _) (by decide) rfl)
      clear hnoJ hlen1
      go_enter Tryz.func5, Tryz.ntmps5
      go_wp2_with (first | (go_at_call 10; (with_reducible refine seq_gw hfew.out ?_); intro g0) | (go_at_call 18; (with_reducible refine seq_gw (hM.out _ (g0.grown.alloc _)) ?_); intro g1; have X1 := hide ((g0.grown.alloc (.cells #[] 72)).trans g1.grown); have want0 := hide (show Jw _ [] _ [] from Sl.own (S := []) (own_ext (hlitJ.out g0.val) g1.grown) (by simp))) | (go_at_call 26; have wantB := hide (want0.out); (with_reducible refine seq_gw (hJ.out _ (X1.out.alloc _)) ?_); intro g4; have X4 := hide ((X1.out.alloc (.cells #[] 56)).trans g4.grown); have made0 := hide (Sl.own (S := []) (own_ext (hlitE.out g1.val) g4.grown) (by simp)); replace want0 := hide (Sl.ext (want0.out) (((Ext.refl _).alloc (.cells #[] 56)).trans g4.grown))) | (go_at_call 11; (with_reducible refine seq_gw' (edgLive_c _) ?_); intro g7; have X7 := hide ((X1.out.alloc (.cells #[] 56)).trans g7.grown); have wantL := hide (Sl.ext wantB.out (((Ext.refl _).alloc (.cells #[] 56)).trans g7.grown)); have madeL := hide ((show Ew _ [] _ [] from ⟨Sl.own (S := []) (own_ext (hlitE.out g1.val) g7.grown) (by simp), by simp⟩))) | (go_at_call 23; refine (hC1.out _ X7.out).mono ?_; rintro ee w8 ⟨v8, rfl, hj8, hx8⟩; have X8 := hide (X7.out.trans hx8); obtain ⟨C8, c8, q8, -, -, -⟩ := jw_form hj8; subst q8; replace hj8 := hide hj8) | (go_at_call 28; (with_reducible refine seq_gw (refStepSame_c _ _ _ _ _ hj8.out (Sl.ext wantL.out hx8)) ?_); rw [decide_eq_true rfl]; intro g9; have X9 := hide (X8.out.trans g9.grown)) | (go_at_call 29; refine (hC2.out _ X9.out).mono ?_; rintro ee w10 ⟨v10, M10, rfl, hM10, ho10, hx10⟩; have X10 := hide (X9.out.trans hx10); have b10 := hide ho10.ew; obtain ⟨C10, c10, q10⟩ := own_form ho10.1; subst q10; replace hM10 := hide hM10) | (go_at_call 14; (with_reducible refine seq_gw (refEdgeSame_c b10.out (madeL.out.ext (hx8.trans (g9.grown.trans hx10)))) ?_); rw [decide_eq_true (show eds M10 = eds ([] : List Ve) from hM10.out)]; intro g11))
      go_returns
      exact ⟨by first | rfl | simp, X10.out.trans g11.grown⟩
    · rw [e1] at hM hC1
      rw [e2] at hR hC2
      rw [e3] at hJ hC2
      simp only [if_true, if_false, Bool.and_true, Bool.true_and, Bool.and_false, Bool.false_and, Bool.false_eq_true] at hC1 hC2
      replace e1 := hide e1
      replace e2 := hide e2
      replace e3 := hide e3
      have hlitJ := hide (fun (W : World) => World.ownsRow_lit (base := W.heap.size) (e := 72) (size := 2) W #[] 0 (Nat.le_refl _) (by decide) rfl)
      have hlitE := hide (fun (W : World) => World.ownsRow_lit (base := W.heap.size) (e := 56) (size := 3) W #[] 0 (Nat.le_refl _) (by decide) rfl)
      clear hnoJ hlen1
      go_enter Tryz.func5, Tryz.ntmps5
      go_wp2_with (first | (go_at_call 10; (with_reducible refine seq_gw hfew.out ?_); intro g0) | (go_at_call 18; (with_reducible refine seq_gw (hM.out _ (g0.grown.alloc _)) ?_); intro g1; have X1 := hide ((g0.grown.alloc (.cells #[] 72)).trans g1.grown); have want0 := hide (show Jw _ [] _ [] from Sl.own (S := []) (own_ext (hlitJ.out g0.val) g1.grown) (by simp))) | (go_at_call 26; have wantB := hide (want0.out); (with_reducible refine seq_gw (hJ.out _ (X1.out.alloc _)) ?_); intro g4; have X4 := hide ((X1.out.alloc (.cells #[] 56)).trans g4.grown); have made0 := hide (Sl.own (S := []) (own_ext (hlitE.out g1.val) g4.grown) (by simp)); replace want0 := hide (Sl.ext (want0.out) (((Ext.refl _).alloc (.cells #[] 56)).trans g4.grown))) | (go_at_call 24; first | ((with_reducible refine seq_gw' (hR.out _ X4.out) ?_); intro g5; have X5 := hide ((X1.out.alloc (.cells #[] 56)).trans g5.grown); replace made0 := hide (Sl.own (S := []) (own_ext (hlitE.out g1.val) g5.grown) (by simp)); replace want0 := hide (Sl.ext (wantB.out) (((Ext.refl _).alloc (.cells #[] 56)).trans g5.grown)))) | (go_at_call 11; (with_reducible refine seq_gw' (edgLive_c _) ?_); intro g7; have X7 := hide ((X1.out.alloc (.cells #[] 56)).trans g7.grown); have wantL := hide (Sl.ext wantB.out (((Ext.refl _).alloc (.cells #[] 56)).trans g7.grown)); have madeL := hide ((show Ew _ [] _ [] from ⟨Sl.own (S := []) (own_ext (hlitE.out g1.val) g7.grown) (by simp), by simp⟩))) | (go_at_call 23; refine (hC1.out _ X7.out).mono ?_; rintro ee w8 ⟨v8, rfl, hj8, hx8⟩; have X8 := hide (X7.out.trans hx8); obtain ⟨C8, c8, q8, -, -, -⟩ := jw_form hj8; subst q8; replace hj8 := hide hj8) | (go_at_call 28; (with_reducible refine seq_gw (refStepSame_c _ _ _ _ _ hj8.out (Sl.ext wantL.out hx8)) ?_); rw [decide_eq_true rfl]; intro g9; have X9 := hide (X8.out.trans g9.grown)) | (go_at_call 29; refine (hC2.out _ X9.out).mono ?_; rintro ee w10 ⟨v10, M10, rfl, hM10, ho10, hx10⟩; have X10 := hide (X9.out.trans hx10); have b10 := hide ho10.ew; obtain ⟨C10, c10, q10⟩ := own_form ho10.1; subst q10; replace hM10 := hide hM10) | (go_at_call 14; (with_reducible refine seq_gw (refEdgeSame_c b10.out (madeL.out.ext (hx8.trans (g9.grown.trans hx10)))) ?_); rw [decide_eq_true (show eds M10 = eds ([] : List Ve) from hM10.out)]; intro g11))
      go_returns
      exact ⟨by first | rfl | simp, X10.out.trans g11.grown⟩
    · rw [e1] at hM hC1
      rw [e2] at hR hC2
      rw [e3] at hJ hC2
      simp only [if_true, if_false, Bool.and_true, Bool.true_and, Bool.and_false, Bool.false_and, Bool.false_eq_true] at hC1 hC2
      replace e1 := hide e1
      replace e2 := hide e2
      replace e3 := hide e3
      have hlitJ := hide (fun (W : World) => World.ownsRow_lit (base := W.heap.size) (e := 72) (size := 2) W #[] 0 (Nat.le_refl _) (by decide) rfl)
      have hlitE := hide (fun (W : World) => World.ownsRow_lit (base := W.heap.size) (e := 56) (size := 3) W #[] 0 (Nat.le_refl _) (by decide) rfl)
      clear hnoJ hlen1
      go_enter Tryz.func5, Tryz.ntmps5
      go_wp2_with (first | (go_at_call 10; (with_reducible refine seq_gw hfew.out ?_); intro g0) | (go_at_call 18; (with_reducible refine seq_gw (hM.out _ (g0.grown.alloc _)) ?_); intro g1; have X1 := hide ((g0.grown.alloc (.cells #[] 72)).trans g1.grown); have want0 := hide (show Jw _ [] _ [] from Sl.own (S := []) (own_ext (hlitJ.out g0.val) g1.grown) (by simp))) | (go_at_call 26; have wantB := hide (want0.out); (with_reducible refine seq_gw (hJ.out _ (X1.out.alloc _)) ?_); intro g4; have X4 := hide ((X1.out.alloc (.cells #[] 56)).trans g4.grown); have made0 := hide (Sl.own (S := []) (own_ext (hlitE.out g1.val) g4.grown) (by simp)); replace want0 := hide (Sl.ext (want0.out) (((Ext.refl _).alloc (.cells #[] 56)).trans g4.grown))) | (go_at_call 11; (with_reducible refine seq_gw' (edgLive_c _) ?_); intro g7; have X7 := hide ((X1.out.alloc (.cells #[] 56)).trans g7.grown); have wantL := hide (Sl.ext wantB.out (((Ext.refl _).alloc (.cells #[] 56)).trans g7.grown)); have madeL := hide ((show Ew _ [] _ [] from ⟨Sl.own (S := []) (own_ext (hlitE.out g1.val) g7.grown) (by simp), by simp⟩))) | (go_at_call 23; refine (hC1.out _ X7.out).mono ?_; rintro ee w8 ⟨v8, rfl, hj8, hx8⟩; have X8 := hide (X7.out.trans hx8); obtain ⟨C8, c8, q8, -, -, -⟩ := jw_form hj8; subst q8; replace hj8 := hide hj8) | (go_at_call 28; (with_reducible refine seq_gw (refStepSame_c _ _ _ _ _ hj8.out (Sl.ext wantL.out hx8)) ?_); rw [decide_eq_true rfl]; intro g9; have X9 := hide (X8.out.trans g9.grown)) | (go_at_call 29; refine (hC2.out _ X9.out).mono ?_; rintro ee w10 ⟨v10, M10, rfl, hM10, ho10, hx10⟩; have X10 := hide (X9.out.trans hx10); have b10 := hide ho10.ew; obtain ⟨C10, c10, q10⟩ := own_form ho10.1; subst q10; replace hM10 := hide hM10) | (go_at_call 14; (with_reducible refine seq_gw (refEdgeSame_c b10.out (madeL.out.ext (hx8.trans (g9.grown.trans hx10)))) ?_); rw [decide_eq_true (show eds M10 = eds ([] : List Ve) from hM10.out)]; intro g11))
      go_returns
      exact ⟨by first | rfl | simp, X10.out.trans g11.grown⟩
    · rw [e1] at hM hC1
      rw [e2] at hR hC2
      rw [e3] at hJ hC2
      simp only [if_true, if_false, Bool.and_true, Bool.true_and, Bool.and_false, Bool.false_and, Bool.false_eq_true] at hC1 hC2
      replace hD2 := hide (hD2.out (hlen1.out e2 e3).1 (hlen1.out e2 e3).2)
      replace e1 := hide e1
      replace e2 := hide e2
      replace e3 := hide e3
      have hlitJ := hide (fun (W : World) => World.ownsRow_lit (base := W.heap.size) (e := 72) (size := 2) W #[] 0 (Nat.le_refl _) (by decide) rfl)
      have hlitE := hide (fun (W : World) => World.ownsRow_lit (base := W.heap.size) (e := 56) (size := 3) W #[] 0 (Nat.le_refl _) (by decide) rfl)
      clear hnoJ hlen1
      go_enter Tryz.func5, Tryz.ntmps5
      go_wp2_with (first | (go_at_call 10; (with_reducible refine seq_gw hfew.out ?_); intro g0) | (go_at_call 18; (with_reducible refine seq_gw (hM.out _ (g0.grown.alloc _)) ?_); intro g1; have X1 := hide ((g0.grown.alloc (.cells #[] 72)).trans g1.grown); have want0 := hide (show Jw _ [] _ [] from Sl.own (S := []) (own_ext (hlitJ.out g0.val) g1.grown) (by simp))) | (go_at_call 26; have wantB := hide (want0.out); (with_reducible refine seq_gw (hJ.out _ (X1.out.alloc _)) ?_); intro g4; have X4 := hide ((X1.out.alloc (.cells #[] 56)).trans g4.grown); have made0 := hide (Sl.own (S := []) (own_ext (hlitE.out g1.val) g4.grown) (by simp)); replace want0 := hide (Sl.ext (want0.out) (((Ext.refl _).alloc (.cells #[] 56)).trans g4.grown))) | (go_at_call 24; first | ((with_reducible refine seq_gw' (hR.out _ X4.out) ?_); intro g5; have X5 := hide ((X1.out.alloc (.cells #[] 56)).trans g5.grown); replace made0 := hide (Sl.own (S := []) (own_ext (hlitE.out g1.val) g5.grown) (by simp)); replace want0 := hide (Sl.ext (wantB.out) (((Ext.refl _).alloc (.cells #[] 56)).trans g5.grown)))) | (go_at_call 27; refine (hD2.out _ X5.out).mono ?_; rintro ee w6 ⟨v6, M6, rfl, hM6, ho6, hx6⟩; have X6 := hide (X5.out.trans hx6); have made := hide ho6.ew; replace want0 := hide (Sl.ext want0.out hx6); obtain ⟨C6, c6, q6⟩ := own_form ho6.1; subst q6; replace hM6 := hide hM6) | (go_at_call 11; (with_reducible refine seq_gw (edgLive_c _) ?_); intro g7; have X7 := hide (X6.out.trans g7.grown); have wantL := hide (Sl.ext want0.out g7.grown); have madeL := hide (made.out.ext g7.grown)) | (go_at_call 23; refine (hC1.out _ X7.out).mono ?_; rintro ee w8 ⟨v8, rfl, hj8, hx8⟩; have X8 := hide (X7.out.trans hx8); obtain ⟨C8, c8, q8, -, -, -⟩ := jw_form hj8; subst q8; replace hj8 := hide hj8) | (go_at_call 28; (with_reducible refine seq_gw (refStepSame_c _ _ _ _ _ hj8.out (Sl.ext wantL.out hx8)) ?_); rw [decide_eq_true rfl]; intro g9; have X9 := hide (X8.out.trans g9.grown)) | (go_at_call 29; refine (hC2.out _ X9.out).mono ?_; rintro ee w10 ⟨v10, M10, rfl, hM10, ho10, hx10⟩; have X10 := hide (X9.out.trans hx10); have b10 := hide ho10.ew; obtain ⟨C10, c10, q10⟩ := own_form ho10.1; subst q10; replace hM10 := hide hM10) | (go_at_call 14; (with_reducible refine seq_gw (refEdgeSame_c b10.out (madeL.out.ext (hx8.trans (g9.grown.trans hx10)))) ?_); rw [decide_eq_true (hM10.out.trans hM6.out.symm)]; intro g11))
      go_returns
      exact ⟨by first | rfl | simp, X10.out.trans g11.grown⟩
    · rw [e1] at hM hC1
      rw [e2] at hR hC2
      rw [e3] at hJ hC2
      simp only [if_true, if_false, Bool.and_true, Bool.true_and, Bool.and_false, Bool.false_and, Bool.false_eq_true] at hC1 hC2
      rw [hnoJ.out e1 e2] at hC1
      replace e1 := hide e1
      replace e2 := hide e2
      replace e3 := hide e3
      have hlitJ := hide (fun (W : World) => World.ownsRow_lit (base := W.heap.size) (e := 72) (size := 2) W #[] 0 (Nat.le_refl _) (by decide) rfl)
      have hlitE := hide (fun (W : World) => World.ownsRow_lit (base := W.heap.size) (e := 56) (size := 3) W #[] 0 (Nat.le_refl _) (by decide) rfl)
      clear hnoJ hlen1
      go_enter Tryz.func5, Tryz.ntmps5
      go_wp2_with (first | (go_at_call 10; (with_reducible refine seq_gw hfew.out ?_); intro g0) | (go_at_call 18; (with_reducible refine seq_gw (hM.out _ (g0.grown.alloc _)) ?_); intro g1; have X1 := hide ((g0.grown.alloc (.cells #[] 72)).trans g1.grown); have want0 := hide (show Jw _ [] _ [] from Sl.own (S := []) (own_ext (hlitJ.out g0.val) g1.grown) (by simp))) | (go_at_call 26; have wantB := hide (want0.out); (with_reducible refine seq_gw (hJ.out _ (X2.out.alloc _)) ?_); intro g4; have X4 := hide ((X2.out.alloc (.cells #[] 56)).trans g4.grown); have made0 := hide (Sl.own (S := []) (own_ext (hlitE.out g2.val) g4.grown) (by simp)); replace want0 := hide (Sl.ext (want0.out) (((Ext.refl _).alloc (.cells #[] 56)).trans g4.grown))) | (go_at_call 24; first | ((with_reducible refine seq_gw' (hR.out _ X1.out) ?_); intro g2; have X2 := hide ((g0.grown.alloc (.cells #[] 72)).trans g2.grown); replace want0 := hide (show Jw _ [] _ [] from Sl.own (S := []) (own_ext (hlitJ.out g0.val) g2.grown) (by simp)))) | (go_at_call 11; (with_reducible refine seq_gw' (edgLive_c _) ?_); intro g7; have X7 := hide ((X2.out.alloc (.cells #[] 56)).trans g7.grown); have wantL := hide (Sl.ext wantB.out (((Ext.refl _).alloc (.cells #[] 56)).trans g7.grown)); have madeL := hide ((show Ew _ [] _ [] from ⟨Sl.own (S := []) (own_ext (hlitE.out g2.val) g7.grown) (by simp), by simp⟩))) | (go_at_call 23; refine (hC1.out _ X7.out).mono ?_; rintro ee w8 ⟨v8, rfl, hj8, hx8⟩; have X8 := hide (X7.out.trans hx8); obtain ⟨C8, c8, q8, -, -, -⟩ := jw_form hj8; subst q8; replace hj8 := hide hj8) | (go_at_call 28; (with_reducible refine seq_gw (refStepSame_c _ _ _ _ _ hj8.out (Sl.ext wantL.out hx8)) ?_); rw [decide_eq_true rfl]; intro g9; have X9 := hide (X8.out.trans g9.grown)) | (go_at_call 29; refine (hC2.out _ X9.out).mono ?_; rintro ee w10 ⟨v10, M10, rfl, hM10, ho10, hx10⟩; have X10 := hide (X9.out.trans hx10); have b10 := hide ho10.ew; obtain ⟨C10, c10, q10⟩ := own_form ho10.1; subst q10; replace hM10 := hide hM10) | (go_at_call 14; (with_reducible refine seq_gw (refEdgeSame_c b10.out (madeL.out.ext (hx8.trans (g9.grown.trans hx10)))) ?_); rw [decide_eq_true (show eds M10 = eds ([] : List Ve) from hM10.out)]; intro g11))
      go_returns
      exact ⟨by first | rfl | simp, X10.out.trans g11.grown⟩
    · rw [e1] at hM hC1
      rw [e2] at hR hC2
      rw [e3] at hJ hC2
      simp only [if_true, if_false, Bool.and_true, Bool.true_and, Bool.and_false, Bool.false_and, Bool.false_eq_true] at hC1 hC2
      rw [hnoJ.out e1 e2] at hC1
      replace e1 := hide e1
      replace e2 := hide e2
      replace e3 := hide e3
      have hlitJ := hide (fun (W : World) => World.ownsRow_lit (base := W.heap.size) (e := 72) (size := 2) W #[] 0 (Nat.le_refl _) (by decide) rfl)
      have hlitE := hide (fun (W : World) => World.ownsRow_lit (base := W.heap.size) (e := 56) (size := 3) W #[] 0 (Nat.le_refl _) (by decide) rfl)
      clear hnoJ hlen1
      go_enter Tryz.func5, Tryz.ntmps5
      go_wp2_with (first | (go_at_call 10; (with_reducible refine seq_gw hfew.out ?_); intro g0) | (go_at_call 18; (with_reducible refine seq_gw (hM.out _ (g0.grown.alloc _)) ?_); intro g1; have X1 := hide ((g0.grown.alloc (.cells #[] 72)).trans g1.grown); have want0 := hide (show Jw _ [] _ [] from Sl.own (S := []) (own_ext (hlitJ.out g0.val) g1.grown) (by simp))) | (go_at_call 26; have wantB := hide (want0.out); (with_reducible refine seq_gw (hJ.out _ (X2.out.alloc _)) ?_); intro g4; have X4 := hide ((X2.out.alloc (.cells #[] 56)).trans g4.grown); have made0 := hide (Sl.own (S := []) (own_ext (hlitE.out g2.val) g4.grown) (by simp)); replace want0 := hide (Sl.ext (want0.out) (((Ext.refl _).alloc (.cells #[] 56)).trans g4.grown))) | (go_at_call 24; first | ((with_reducible refine seq_gw' (hR.out _ X4.out) ?_); intro g5; have X5 := hide ((X2.out.alloc (.cells #[] 56)).trans g5.grown); replace made0 := hide (Sl.own (S := []) (own_ext (hlitE.out g2.val) g5.grown) (by simp)); replace want0 := hide (Sl.ext (wantB.out) (((Ext.refl _).alloc (.cells #[] 56)).trans g5.grown))) | ((with_reducible refine seq_gw' (hR.out _ X1.out) ?_); intro g2; have X2 := hide ((g0.grown.alloc (.cells #[] 72)).trans g2.grown); replace want0 := hide (show Jw _ [] _ [] from Sl.own (S := []) (own_ext (hlitJ.out g0.val) g2.grown) (by simp)))) | (go_at_call 11; (with_reducible refine seq_gw' (edgLive_c _) ?_); intro g7; have X7 := hide ((X2.out.alloc (.cells #[] 56)).trans g7.grown); have wantL := hide (Sl.ext wantB.out (((Ext.refl _).alloc (.cells #[] 56)).trans g7.grown)); have madeL := hide ((show Ew _ [] _ [] from ⟨Sl.own (S := []) (own_ext (hlitE.out g2.val) g7.grown) (by simp), by simp⟩))) | (go_at_call 23; refine (hC1.out _ X7.out).mono ?_; rintro ee w8 ⟨v8, rfl, hj8, hx8⟩; have X8 := hide (X7.out.trans hx8); obtain ⟨C8, c8, q8, -, -, -⟩ := jw_form hj8; subst q8; replace hj8 := hide hj8) | (go_at_call 28; (with_reducible refine seq_gw (refStepSame_c _ _ _ _ _ hj8.out (Sl.ext wantL.out hx8)) ?_); rw [decide_eq_true rfl]; intro g9; have X9 := hide (X8.out.trans g9.grown)) | (go_at_call 29; refine (hC2.out _ X9.out).mono ?_; rintro ee w10 ⟨v10, M10, rfl, hM10, ho10, hx10⟩; have X10 := hide (X9.out.trans hx10); have b10 := hide ho10.ew; obtain ⟨C10, c10, q10⟩ := own_form ho10.1; subst q10; replace hM10 := hide hM10) | (go_at_call 14; (with_reducible refine seq_gw (refEdgeSame_c b10.out (madeL.out.ext (hx8.trans (g9.grown.trans hx10)))) ?_); rw [decide_eq_true (show eds M10 = eds ([] : List Ve) from hM10.out)]; intro g11))
      go_returns
      exact ⟨by first | rfl | simp, X10.out.trans g11.grown⟩
    · rw [e1] at hM hC1
      rw [e2] at hR hC2
      rw [e3] at hJ hC2
      simp only [if_true, if_false, Bool.and_true, Bool.true_and, Bool.and_false, Bool.false_and, Bool.false_eq_true] at hC1 hC2
      replace e1 := hide e1
      replace e2 := hide e2
      replace e3 := hide e3
      have hlitJ := hide (fun (W : World) => World.ownsRow_lit (base := W.heap.size) (e := 72) (size := 2) W #[] 0 (Nat.le_refl _) (by decide) rfl)
      have hlitE := hide (fun (W : World) => World.ownsRow_lit (base := W.heap.size) (e := 56) (size := 3) W #[] 0 (Nat.le_refl _) (by decide) rfl)
      clear hnoJ hlen1
      go_enter Tryz.func5, Tryz.ntmps5
      go_wp2_with (first | (go_at_call 10; (with_reducible refine seq_gw hfew.out ?_); intro g0) | (go_at_call 18; (with_reducible refine seq_gw (hM.out _ (g0.grown.alloc _)) ?_); intro g1; have X1 := hide ((g0.grown.alloc (.cells #[] 72)).trans g1.grown); have want0 := hide (show Jw _ [] _ [] from Sl.own (S := []) (own_ext (hlitJ.out g0.val) g1.grown) (by simp))) | (go_at_call 25; refine (hD1.out _ X2.out).mono ?_; rintro ee w3 ⟨v3, rfl, ho3, hx3⟩; have X3 := hide (X2.out.trans hx3); have want := hide (Sl.own (S := []) ho3 (by simp)); obtain ⟨C3, c3, q3⟩ := own_form ho3; subst q3) | (go_at_call 26; have wantB := hide (want.out); (with_reducible refine seq_gw (hJ.out _ (X3.out.alloc _)) ?_); intro g4; have X4 := hide ((X3.out.alloc (.cells #[] 56)).trans g4.grown); have made0 := hide (Sl.own (S := []) (own_ext (hlitE.out w3) g4.grown) (by simp)); replace want0 := hide (Sl.ext (want.out) (((Ext.refl _).alloc (.cells #[] 56)).trans g4.grown))) | (go_at_call 24; first | ((with_reducible refine seq_gw' (hR.out _ X1.out) ?_); intro g2; have X2 := hide ((g0.grown.alloc (.cells #[] 72)).trans g2.grown); replace want0 := hide (show Jw _ [] _ [] from Sl.own (S := []) (own_ext (hlitJ.out g0.val) g2.grown) (by simp)))) | (go_at_call 11; (with_reducible refine seq_gw' (edgLive_c _) ?_); intro g7; have X7 := hide ((X3.out.alloc (.cells #[] 56)).trans g7.grown); have wantL := hide (Sl.ext wantB.out (((Ext.refl _).alloc (.cells #[] 56)).trans g7.grown)); have madeL := hide ((show Ew _ [] _ [] from ⟨Sl.own (S := []) (own_ext (hlitE.out w3) g7.grown) (by simp), by simp⟩))) | (go_at_call 23; refine (hC1.out _ X7.out).mono ?_; rintro ee w8 ⟨v8, rfl, hj8, hx8⟩; have X8 := hide (X7.out.trans hx8); obtain ⟨C8, c8, q8, -, -, -⟩ := jw_form hj8; subst q8; replace hj8 := hide hj8) | (go_at_call 28; (with_reducible refine seq_gw (refStepSame_c _ _ _ _ _ hj8.out (Sl.ext wantL.out hx8)) ?_); rw [decide_eq_true rfl]; intro g9; have X9 := hide (X8.out.trans g9.grown)) | (go_at_call 29; refine (hC2.out _ X9.out).mono ?_; rintro ee w10 ⟨v10, M10, rfl, hM10, ho10, hx10⟩; have X10 := hide (X9.out.trans hx10); have b10 := hide ho10.ew; obtain ⟨C10, c10, q10⟩ := own_form ho10.1; subst q10; replace hM10 := hide hM10) | (go_at_call 14; (with_reducible refine seq_gw (refEdgeSame_c b10.out (madeL.out.ext (hx8.trans (g9.grown.trans hx10)))) ?_); rw [decide_eq_true (show eds M10 = eds ([] : List Ve) from hM10.out)]; intro g11))
      go_returns
      exact ⟨by first | rfl | simp, X10.out.trans g11.grown⟩
    · rw [e1] at hM hC1
      rw [e2] at hR hC2
      rw [e3] at hJ hC2
      simp only [if_true, if_false, Bool.and_true, Bool.true_and, Bool.and_false, Bool.false_and, Bool.false_eq_true] at hC1 hC2
      replace hD2 := hide (hD2.out (hlen1.out e2 e3).1 (hlen1.out e2 e3).2)
      replace e1 := hide e1
      replace e2 := hide e2
      replace e3 := hide e3
      have hlitJ := hide (fun (W : World) => World.ownsRow_lit (base := W.heap.size) (e := 72) (size := 2) W #[] 0 (Nat.le_refl _) (by decide) rfl)
      have hlitE := hide (fun (W : World) => World.ownsRow_lit (base := W.heap.size) (e := 56) (size := 3) W #[] 0 (Nat.le_refl _) (by decide) rfl)
      clear hnoJ hlen1
      go_enter Tryz.func5, Tryz.ntmps5
      go_wp2_with (first | (go_at_call 10; (with_reducible refine seq_gw hfew.out ?_); intro g0) | (go_at_call 18; (with_reducible refine seq_gw (hM.out _ (g0.grown.alloc _)) ?_); intro g1; have X1 := hide ((g0.grown.alloc (.cells #[] 72)).trans g1.grown); have want0 := hide (show Jw _ [] _ [] from Sl.own (S := []) (own_ext (hlitJ.out g0.val) g1.grown) (by simp))) | (go_at_call 25; refine (hD1.out _ X2.out).mono ?_; rintro ee w3 ⟨v3, rfl, ho3, hx3⟩; have X3 := hide (X2.out.trans hx3); have want := hide (Sl.own (S := []) ho3 (by simp)); obtain ⟨C3, c3, q3⟩ := own_form ho3; subst q3) | (go_at_call 26; have wantB := hide (want.out); (with_reducible refine seq_gw (hJ.out _ (X3.out.alloc _)) ?_); intro g4; have X4 := hide ((X3.out.alloc (.cells #[] 56)).trans g4.grown); have made0 := hide (Sl.own (S := []) (own_ext (hlitE.out w3) g4.grown) (by simp)); replace want0 := hide (Sl.ext (want.out) (((Ext.refl _).alloc (.cells #[] 56)).trans g4.grown))) | (go_at_call 24; first | ((with_reducible refine seq_gw' (hR.out _ X4.out) ?_); intro g5; have X5 := hide ((X3.out.alloc (.cells #[] 56)).trans g5.grown); replace made0 := hide (Sl.own (S := []) (own_ext (hlitE.out w3) g5.grown) (by simp)); replace want0 := hide (Sl.ext (wantB.out) (((Ext.refl _).alloc (.cells #[] 56)).trans g5.grown))) | ((with_reducible refine seq_gw' (hR.out _ X1.out) ?_); intro g2; have X2 := hide ((g0.grown.alloc (.cells #[] 72)).trans g2.grown); replace want0 := hide (show Jw _ [] _ [] from Sl.own (S := []) (own_ext (hlitJ.out g0.val) g2.grown) (by simp)))) | (go_at_call 27; refine (hD2.out _ X5.out).mono ?_; rintro ee w6 ⟨v6, M6, rfl, hM6, ho6, hx6⟩; have X6 := hide (X5.out.trans hx6); have made := hide ho6.ew; replace want0 := hide (Sl.ext want0.out hx6); obtain ⟨C6, c6, q6⟩ := own_form ho6.1; subst q6; replace hM6 := hide hM6) | (go_at_call 11; (with_reducible refine seq_gw (edgLive_c _) ?_); intro g7; have X7 := hide (X6.out.trans g7.grown); have wantL := hide (Sl.ext want0.out g7.grown); have madeL := hide (made.out.ext g7.grown)) | (go_at_call 23; refine (hC1.out _ X7.out).mono ?_; rintro ee w8 ⟨v8, rfl, hj8, hx8⟩; have X8 := hide (X7.out.trans hx8); obtain ⟨C8, c8, q8, -, -, -⟩ := jw_form hj8; subst q8; replace hj8 := hide hj8) | (go_at_call 28; (with_reducible refine seq_gw (refStepSame_c _ _ _ _ _ hj8.out (Sl.ext wantL.out hx8)) ?_); rw [decide_eq_true rfl]; intro g9; have X9 := hide (X8.out.trans g9.grown)) | (go_at_call 29; refine (hC2.out _ X9.out).mono ?_; rintro ee w10 ⟨v10, M10, rfl, hM10, ho10, hx10⟩; have X10 := hide (X9.out.trans hx10); have b10 := hide ho10.ew; obtain ⟨C10, c10, q10⟩ := own_form ho10.1; subst q10; replace hM10 := hide hM10) | (go_at_call 14; (with_reducible refine seq_gw (refEdgeSame_c b10.out (madeL.out.ext (hx8.trans (g9.grown.trans hx10)))) ?_); rw [decide_eq_true (hM10.out.trans hM6.out.symm)]; intro g11))
      go_returns
      exact ⟨by first | rfl | simp, X10.out.trans g11.grown⟩
  · rw [decide_eq_false la] at hfew
    go_enter Tryz.func5, Tryz.ntmps5
    go_wp2_with (first | (go_at_call 10; (with_reducible refine seq_gw hfew.out ?_); intro g0) | (go_at_call 11; (with_reducible refine seq_gw' (edgLive_c _) ?_); intro g1))
    go_returns
    exact ⟨by first | rfl | simp, g1.grown⟩

theorem own : ownKnob Tryz.prog.godebug = none := by kernel_rfl
theorem laidOut : laidOutB Tryz.prog = true := by kernel_rfl
set_option maxRecDepth 100000 in
theorem lifted (os : Os) (started : os.Started) (H : Type) (enc : TypeId × Value → H) :
    ReturnsInHanded {} Tryz.checked os 5 .any (Rows.edgeRowsSpec.pre6 enc Tryz.prog Tryz.f5 Rows.edgeRowsRow.domain false) (Rows.edgeRowsSpec.post enc Tryz.prog Tryz.f5 false true false false) := by
  refine returnsInHanded_of_change_sized (C := Tryz.checked) own started (by kernel_rfl) Tryz.func5
    (ChangeSpec.witness6 (enc := enc) (C := Tryz.checked) false ⟨#[], #[.slice none 0 0, .slice none 0 0, .slice none 0 0], []⟩ 8 (by kernel_rfl) (by kernel_rfl) (by kernel_rfl) (by kernel_rfl)) ?_
  intro W base args ds gs before hval0 hW hcnd hsz0 _
  have hsz : (DataW.weightsEach Tryz.prog (Tryz.f5.params.toList ++ Rows.edgeRowsSpec.plain.varTypes Tryz.prog) (ds ++ gs)).all (· ≤ reachBytes) = true := hsz0
  clear hsz0
  have hval : ∀ (j : Nat) t v, Tryz.f5.params[j]? = some t → args[j]? = some v → Value.okWide Tryz.prog W .any base t v := hval0
  have hW' := hW
  obtain ⟨p, q, hA0, hV, rfl, hfz, hnd⟩ := hW
  have hA : DataW.TrodAll enc Tryz.prog W 0 (fun _ => true) true Tryz.f5.params.toList args.toList ds p := hA0
  rw [Tryz.params5] at hA hval hsz
  obtain ⟨v0, vs0, d0, ds0, p0, q0, hargs, rfl, rfl, h0, r0⟩ := trodAll_cons hA
  obtain ⟨v1, vs1, d1, ds1, p1, q1, rfl, rfl, rfl, h1, r1⟩ := trodAll_cons r0
  obtain ⟨v2, vs2, d2, ds2, p2, q2, rfl, rfl, rfl, h2, r2⟩ := trodAll_cons r1
  obtain ⟨rfl, rfl, rfl⟩ := trodAll_nil r2
  obtain rfl : args = #[v0, v1, v2] := by cases args; simp_all
  obtain ⟨rfl, rfl⟩ := trodVars_none hV
  have k0 := h0
  have lt0 : ∀ x ∈ p0, x.block < W.heap.size := by obtain ⟨m, hm⟩ := k0; exact DataW.trod_lt m _ _ _ hm
  obtain ⟨A0, n0, c0, rfl⟩ := okWide_slice Tryz.underlying22 (hval 0 22 v0 rfl rfl)
  have ⟨m0, hm0⟩ := h0
  obtain ⟨l, ll, hl⟩ := open_edges Tryz.underlying22 Tryz.underlying56 (by kernel_rfl) rfl rfl rfl (by kernel_rfl) (by kernel_rfl) (by kernel_rfl) Tryz.underlying31 Tryz.underlying3 Tryz.underlying3 Tryz.underlying54 (by kernel_rfl) rfl rfl rfl (by kernel_rfl) (by kernel_rfl) (by kernel_rfl) Tryz.underlying52 Tryz.underlying3 Tryz.underlying9 hm0
  have zl : l.length * 40 ≤ 140737488351232 := by rw [ll]; exact sized_elems hsz (j := 0) (t := 22) (e := 56) rfl rfl Tryz.underlying22 (by kernel_rfl)
  have k1 := h1
  have lt1 : ∀ x ∈ p1, x.block < W.heap.size := by obtain ⟨m, hm⟩ := k1; exact DataW.trod_lt m _ _ _ hm
  obtain ⟨A1, n1, c1, rfl⟩ := okWide_slice Tryz.underlying31 (hval 1 31 v1 rfl rfl)
  have ⟨m1, hm1⟩ := h1
  obtain ⟨r, lr, hr, qr⟩ := open_row Tryz.underlying31 Tryz.underlying54 (by kernel_rfl) rfl rfl rfl (by kernel_rfl) (by kernel_rfl) (by kernel_rfl) Tryz.underlying52 Tryz.underlying3 Tryz.underlying9 hm1
  have zr : r.length * 32 ≤ 140737488351232 := by rw [lr]; exact sized_elems hsz (j := 1) (t := 31) (e := 54) rfl rfl Tryz.underlying31 (by kernel_rfl)
  have k2 := h2
  have lt2 : ∀ x ∈ p2, x.block < W.heap.size := by obtain ⟨m, hm⟩ := k2; exact DataW.trod_lt m _ _ _ hm
  obtain ⟨A2, n2, c2, rfl⟩ := okWide_slice Tryz.underlying36 (hval 2 36 v2 rfl rfl)
  have ⟨m2, hm2⟩ := h2
  obtain ⟨f, lf, hf, qf⟩ := open_pairs Tryz.underlying36 Tryz.underlying72 (by kernel_rfl) rfl rfl (by kernel_rfl) (by kernel_rfl) Tryz.underlying3 Tryz.underlying3 hm2
  have zf : f.length ≤ 140737488351232 := by rw [lf]; exact sized_len hsz (j := 2) (t := 36) (e := 72) rfl rfl Tryz.underlying36 (of_decide_eq_true (by kernel_rfl))
  clear hA0 hval0
  refine (walk l r f _ _ _ W hl hr hf).mono fun e W' ⟨he, bel⟩ => ?_
  subst he
  exact ⟨_, rfl, _, _, _, [], _, [], hW', trodAll_mk1 (shut_bool Tryz.underlying4 _), (trodAll_cons_mk (Below.trod laidOut (by kernel_rfl) (of_decide_eq_true (by kernel_rfl)) k0 bel lt0) (trodAll_cons_mk (Below.trod laidOut (by kernel_rfl) (of_decide_eq_true (by kernel_rfl)) k1 bel lt1) (trodAll_cons_mk (Below.trod laidOut (by kernel_rfl) (of_decide_eq_true (by kernel_rfl)) k2 bel lt2) trodAll_mk0))), rfl, bel.frame _, fun h => by cases h⟩

theorem over : Rows.edgeRowsRow.holds Tryz.pinned (OpenSpec.ofChange Rows.edgeRowsSpec) :=
  OpenClaim.holds_of_wide 5 Tryz.f5 rfl rfl rfl rfl rfl rfl rfl ⟨rfl, rfl, rfl, rfl, rfl⟩ rfl rfl rfl rfl rfl (by kernel_rfl) Tryz.func5 (by kernel_rfl)
    (of_decide_eq_true (by kernel_rfl)) (by unfold Func.isWrapper; first | (rw [if_pos (by decide +kernel)]; kernel_rfl) | (rw [if_neg (by decide +kernel)]; exact ⟨rfl, rfl⟩))
    (fun os started H enc _ => lifted os started H enc)

theorem edgeRows_holds : Rows.EdgeRowsSaid := over
end Go.Proofs.YtpiehlfpkfbckaaGreat.edgeRows
