/-
  A helper of ours: no claim of its own. Layer 30 (window): the walks of WindowSettles, WindowForgets and WindowRises.
-/
import Derived.Test.YtljkneajdndgjaaGreatWinC
import Derived.Test.YtljkneajdndgjaaGreatSnaS
import Derived.Test.YtljkneajdndgjaaGreatWindowClocksF
set_option linter.unusedVariables false
set_option linter.unusedSimpArgs false
namespace Go.Proofs.YtljkneajdndgjaaGreat
open Go.RowKit
attribute [local go_sem] GW.cell GW.frozen In.eq_true In.le_true In.ne In.ne' In.ne_add In.ne_add' In.lt_add Upto.le_true Upto.le_add Upto.lt_add
theorem wpL_len {k s h : Int} {l : List Ed} {f t : Int} (e : wpE k s h l f t = 0) : (wpL k s h l f t).length ≤ 4096 := by
  unfold wpE at e
  unfold wpL
  split at e
  case isFalse hn => exact absurd e hn
  rename_i h1
  rw [if_pos h1]
  split at e
  · rename_i h2
    rw [if_pos h2]
    obtain ⟨-, -, h3⟩ := hpE_ok e
    unfold hpL hpT
    rw [if_pos e, List.length_map]
    omega
  · rename_i h2
    rw [if_neg h2]
    split at e
    · rename_i h3
      rw [if_pos h3]
      unfold cpL cpT
      rw [if_pos e, List.length_map, cwS_len]
      have := (cpE_ok e).2
      omega
    · rename_i h3
      rw [if_neg h3]
      unfold snL
      rw [if_pos e]
      unfold snE at e
      split at e
      case isFalse hn => exact absurd e hn
      split at e
      · exact absurd e (by decide)
      · omega
set_option maxHeartbeats 16000000 in
set_option maxRecDepth 100000 in
theorem windowSettles_walk (k s h : Int) (L M : List Ve) (t : Int) (v u : Value) (w : World) (hL : Ew w [] v L) (hM : Ew w [] u M) : Calls Tryz.prog 5 #[wV k s h, v, u, .int .i64 t] w fun e w' => e = .returned (.bool true) ∧ Ext w w' := by
  have hl := hide wLive_c
  have hb0 := hide (Ob.new w 24 (wL k s h))
  have hX0 := hide ((Ext.refl w).alloc (.cells #[.int .i64 k, .int .i64 s, .int .i64 h] 24))
  have hbl := hb0.out.lt
  have c0 := hb0.out.cell 0 rfl
  have c1 := hb0.out.cell 1 rfl
  have c2 := hb0.out.cell 2 rfl
  haveI : In w.heap.size (w.alloc (.cells #[.int .i64 k, .int .i64 s, .int .i64 h] 24)) := ⟨hbl⟩
  have hA1 := hide (fun w' (hX : Ext w w') => edgeAhead_c L t v w' (hL.ext hX))
  have hA2 := hide (fun w' (hX : Ext w w') => edgeAhead_c M t u w' (hM.ext hX))
  have hO1 := hide (fun w' (hX : Ext w w') => wclock_c k s h L t v w' (hL.ext hX))
  have hO2 := hide (fun w' (hX : Ext w w') => wclock_c k s h M t u w' (hM.ext hX))
  have hp1 := hide (fun w' (hX : Ext w w') => wparts_c k s h L 0 t v w' (hL.ext hX))
  have hp2 := hide (fun w' (hX : Ext w w') => wparts_c k s h M 0 t u w' (hM.ext hX))
  obtain ⟨A, cap, rfl, hlc, hlm, -⟩ := ew_form hL
  obtain ⟨B, cap2, rfl, hmc, hmm, -⟩ := ew_form hM
  unfold maxLen at hlm hmm
  clear hL hM
  obtain ⟨E1, hE1⟩ : ∃ E, E = mpE (ahOp t) (eds L) := ⟨_, rfl⟩
  obtain ⟨E2, hE2⟩ : ∃ E, E = mpE (ahOp t) (eds M) := ⟨_, rfl⟩
  obtain ⟨G1, hG1⟩ : ∃ E, E = wrE k s h (eds L) t := ⟨_, rfl⟩
  obtain ⟨G2, hG2⟩ : ∃ E, E = wrE k s h (eds M) t := ⟨_, rfl⟩
  obtain ⟨V, hV⟩ : ∃ E, E = wcV k s h (eds L) t := ⟨_, rfl⟩
  obtain ⟨V2, hV2⟩ : ∃ E, E = wcV k s h (eds M) t := ⟨_, rfl⟩
  obtain ⟨K1, hK1⟩ : ∃ E, E = wpE k s h (eds L) 0 t := ⟨_, rfl⟩
  obtain ⟨K2, hK2⟩ : ∃ E, E = wpE k s h (eds M) 0 t := ⟨_, rfl⟩
  rw [← hE1] at hA1
  rw [← hE2] at hA2
  rw [← hG1, ← hV] at hO1
  rw [← hG2, ← hV2] at hO2
  rw [← hK1] at hp1
  rw [← hK2] at hp2
  by_cases h1 : E1 = 0
  case neg =>
    have hb : (E1 != 0) = true := by simpa using h1
    replace hE1 := hide hE1
    replace hE2 := hide hE2
    replace hG1 := hide hG1
    replace hG2 := hide hG2
    replace hV := hide hV
    replace hV2 := hide hV2
    replace hK1 := hide hK1
    replace hK2 := hide hK2
    go_enter Tryz.func5, Tryz.ntmps5
    go_wp2_with (first | (go_at_call 19; first | ((with_reducible refine (hA1.out _ hX0.out).mono ?_); rintro ee w1 ⟨v1, N1, rfl, hN1, ho1, hY⟩; have hX1 := hide (hX0.out.trans hY); have hs1 := hide ho1.ew; have hN1' := hide hN1; (have i1 : In w.heap.size w1 := ⟨Nat.lt_of_lt_of_le hbl hY.size⟩); have hb1 := hide (hb0.out.ext hY); obtain ⟨A1, q1c, q1⟩ := own_form ho1.1; subst q1; clear ho1 hY hN1) | ((with_reducible refine (hA2.out _ hX1.out).mono ?_); rintro ee w2 ⟨v2, N2, rfl, hN2, ho2, hY⟩; have hX2 := hide (hX1.out.trans hY); have hs2 := hide ho2.ew; have hs12 := hide (hs1.out.ext hY); have hN2' := hide hN2; have hb2 := hide (hb1.out.ext hY); (have i2 : In w.heap.size w2 := ⟨hb2.out.lt⟩); have y0 := hb2.out.cell 0 rfl; have y1 := hb2.out.cell 1 rfl; have y2 := hb2.out.cell 2 rfl; obtain ⟨A2, q2c, q2⟩ := own_form ho2.1; subst q2; clear ho2 hY hN2)) | (go_at_call 11; (with_reducible refine seq_gw (hl.out _) ?_); intro g9))
    go_returns
    exact ⟨by first | rfl | simp, hX2.out.trans g9.grown⟩
  subst h1
  by_cases h2 : E2 = 0
  case neg =>
    have hb : (E2 != 0) = true := by simpa using h2
    replace hE1 := hide hE1
    replace hE2 := hide hE2
    replace hG1 := hide hG1
    replace hG2 := hide hG2
    replace hV := hide hV
    replace hV2 := hide hV2
    replace hK1 := hide hK1
    replace hK2 := hide hK2
    go_enter Tryz.func5, Tryz.ntmps5
    go_wp2_with (first | (go_at_call 19; first | ((with_reducible refine (hA1.out _ hX0.out).mono ?_); rintro ee w1 ⟨v1, N1, rfl, hN1, ho1, hY⟩; have hX1 := hide (hX0.out.trans hY); have hs1 := hide ho1.ew; have hN1' := hide hN1; (have i1 : In w.heap.size w1 := ⟨Nat.lt_of_lt_of_le hbl hY.size⟩); have hb1 := hide (hb0.out.ext hY); obtain ⟨A1, q1c, q1⟩ := own_form ho1.1; subst q1; clear ho1 hY hN1) | ((with_reducible refine (hA2.out _ hX1.out).mono ?_); rintro ee w2 ⟨v2, N2, rfl, hN2, ho2, hY⟩; have hX2 := hide (hX1.out.trans hY); have hs2 := hide ho2.ew; have hs12 := hide (hs1.out.ext hY); have hN2' := hide hN2; have hb2 := hide (hb1.out.ext hY); (have i2 : In w.heap.size w2 := ⟨hb2.out.lt⟩); have y0 := hb2.out.cell 0 rfl; have y1 := hb2.out.cell 1 rfl; have y2 := hb2.out.cell 2 rfl; obtain ⟨A2, q2c, q2⟩ := own_form ho2.1; subst q2; clear ho2 hY hN2)) | (go_at_call 11; (with_reducible refine seq_gw (hl.out _) ?_); intro g9))
    go_returns
    exact ⟨by first | rfl | simp, hX2.out.trans g9.grown⟩
  subst h2
  cases hXX : decide (mpR (ahOp t) (eds L) = mpR (ahOp t) (eds M))
  · replace hE1 := hide hE1
    replace hE2 := hide hE2
    replace hG1 := hide hG1
    replace hG2 := hide hG2
    replace hV := hide hV
    replace hV2 := hide hV2
    replace hK1 := hide hK1
    replace hK2 := hide hK2
    go_enter Tryz.func5, Tryz.ntmps5
    go_wp2_with (first | (go_at_call 19; first | ((with_reducible refine (hA1.out _ hX0.out).mono ?_); rintro ee w1 ⟨v1, N1, rfl, hN1, ho1, hY⟩; have hX1 := hide (hX0.out.trans hY); have hs1 := hide ho1.ew; have hN1' := hide hN1; (have i1 : In w.heap.size w1 := ⟨Nat.lt_of_lt_of_le hbl hY.size⟩); have hb1 := hide (hb0.out.ext hY); obtain ⟨A1, q1c, q1⟩ := own_form ho1.1; subst q1; clear ho1 hY hN1) | ((with_reducible refine (hA2.out _ hX1.out).mono ?_); rintro ee w2 ⟨v2, N2, rfl, hN2, ho2, hY⟩; have hX2 := hide (hX1.out.trans hY); have hs2 := hide ho2.ew; have hs12 := hide (hs1.out.ext hY); have hN2' := hide hN2; have hb2 := hide (hb1.out.ext hY); (have i2 : In w.heap.size w2 := ⟨hb2.out.lt⟩); have y0 := hb2.out.cell 0 rfl; have y1 := hb2.out.cell 1 rfl; have y2 := hb2.out.cell 2 rfl; obtain ⟨A2, q2c, q2⟩ := own_form ho2.1; subst q2; clear ho2 hY hN2)) | (go_at_call 20; (have hsm := refEdgeSame_c hs12.out hs2.out; rw [hN1'.out, hN2'.out, hXX] at hsm; (with_reducible refine seq_gw hsm ?_); intro g3; clear hsm; have hX3 := hide (hX2.out.trans g3.grown))) | (go_at_call 11; (with_reducible refine seq_gw (hl.out _) ?_); intro g9))
    go_returns
    exact ⟨by first | rfl | simp, hX3.out.trans g9.grown⟩
  by_cases h0 : t < 1125899906842624
  case neg =>
    have h0' : 1125899906842624 ≤ t := by omega
    replace hE1 := hide hE1
    replace hE2 := hide hE2
    replace hG1 := hide hG1
    replace hG2 := hide hG2
    replace hV := hide hV
    replace hV2 := hide hV2
    replace hK1 := hide hK1
    replace hK2 := hide hK2
    clear h0
    go_enter Tryz.func5, Tryz.ntmps5
    go_wp2_with (first | (go_at_call 19; first | ((with_reducible refine (hA1.out _ hX0.out).mono ?_); rintro ee w1 ⟨v1, N1, rfl, hN1, ho1, hY⟩; have hX1 := hide (hX0.out.trans hY); have hs1 := hide ho1.ew; have hN1' := hide hN1; (have i1 : In w.heap.size w1 := ⟨Nat.lt_of_lt_of_le hbl hY.size⟩); have hb1 := hide (hb0.out.ext hY); obtain ⟨A1, q1c, q1⟩ := own_form ho1.1; subst q1; clear ho1 hY hN1) | ((with_reducible refine (hA2.out _ hX1.out).mono ?_); rintro ee w2 ⟨v2, N2, rfl, hN2, ho2, hY⟩; have hX2 := hide (hX1.out.trans hY); have hs2 := hide ho2.ew; have hs12 := hide (hs1.out.ext hY); have hN2' := hide hN2; have hb2 := hide (hb1.out.ext hY); (have i2 : In w.heap.size w2 := ⟨hb2.out.lt⟩); have y0 := hb2.out.cell 0 rfl; have y1 := hb2.out.cell 1 rfl; have y2 := hb2.out.cell 2 rfl; obtain ⟨A2, q2c, q2⟩ := own_form ho2.1; subst q2; clear ho2 hY hN2)) | (go_at_call 20; (have hsm := refEdgeSame_c hs12.out hs2.out; rw [hN1'.out, hN2'.out, hXX] at hsm; (with_reducible refine seq_gw hsm ?_); intro g3; clear hsm; have hX3 := hide (hX2.out.trans g3.grown))) | (go_at_call 11; (with_reducible refine seq_gw (hl.out _) ?_); intro g9))
    go_returns
    exact ⟨by first | rfl | simp, hX3.out.trans g9.grown⟩
  by_cases h3 : G1 = 0
  case neg =>
    have hb : (G1 != 0) = true := by simpa using h3
    replace hE1 := hide hE1
    replace hE2 := hide hE2
    replace hG1 := hide hG1
    replace hG2 := hide hG2
    replace hV := hide hV
    replace hV2 := hide hV2
    replace hK1 := hide hK1
    replace hK2 := hide hK2
    go_enter Tryz.func5, Tryz.ntmps5
    go_wp2_with (first | (go_at_call 19; first | ((with_reducible refine (hA1.out _ hX0.out).mono ?_); rintro ee w1 ⟨v1, N1, rfl, hN1, ho1, hY⟩; have hX1 := hide (hX0.out.trans hY); have hs1 := hide ho1.ew; have hN1' := hide hN1; (have i1 : In w.heap.size w1 := ⟨Nat.lt_of_lt_of_le hbl hY.size⟩); have hb1 := hide (hb0.out.ext hY); obtain ⟨A1, q1c, q1⟩ := own_form ho1.1; subst q1; clear ho1 hY hN1) | ((with_reducible refine (hA2.out _ hX1.out).mono ?_); rintro ee w2 ⟨v2, N2, rfl, hN2, ho2, hY⟩; have hX2 := hide (hX1.out.trans hY); have hs2 := hide ho2.ew; have hs12 := hide (hs1.out.ext hY); have hN2' := hide hN2; have hb2 := hide (hb1.out.ext hY); (have i2 : In w.heap.size w2 := ⟨hb2.out.lt⟩); have y0 := hb2.out.cell 0 rfl; have y1 := hb2.out.cell 1 rfl; have y2 := hb2.out.cell 2 rfl; obtain ⟨A2, q2c, q2⟩ := own_form ho2.1; subst q2; clear ho2 hY hN2)) | (go_at_call 20; (have hsm := refEdgeSame_c hs12.out hs2.out; rw [hN1'.out, hN2'.out, hXX] at hsm; (with_reducible refine seq_gw hsm ?_); intro g3; clear hsm; have hX3 := hide (hX2.out.trans g3.grown))) | (go_at_call 12; first | ((with_reducible refine seq_gw (hO1.out _ hX3.out) ?_); intro g4; have hX4 := hide (hX3.out.trans g4.grown)) | ((with_reducible refine seq_gw (hO2.out _ hX4.out) ?_); intro g5; have hX5 := hide (hX4.out.trans g5.grown))) | (go_at_call 11; (with_reducible refine seq_gw (hl.out _) ?_); intro g9))
    go_returns
    exact ⟨by first | rfl | simp, hX5.out.trans g9.grown⟩
  subst h3
  by_cases h4 : G2 = 0
  case neg =>
    have hb : (G2 != 0) = true := by simpa using h4
    replace hE1 := hide hE1
    replace hE2 := hide hE2
    replace hG1 := hide hG1
    replace hG2 := hide hG2
    replace hV := hide hV
    replace hV2 := hide hV2
    replace hK1 := hide hK1
    replace hK2 := hide hK2
    go_enter Tryz.func5, Tryz.ntmps5
    go_wp2_with (first | (go_at_call 19; first | ((with_reducible refine (hA1.out _ hX0.out).mono ?_); rintro ee w1 ⟨v1, N1, rfl, hN1, ho1, hY⟩; have hX1 := hide (hX0.out.trans hY); have hs1 := hide ho1.ew; have hN1' := hide hN1; (have i1 : In w.heap.size w1 := ⟨Nat.lt_of_lt_of_le hbl hY.size⟩); have hb1 := hide (hb0.out.ext hY); obtain ⟨A1, q1c, q1⟩ := own_form ho1.1; subst q1; clear ho1 hY hN1) | ((with_reducible refine (hA2.out _ hX1.out).mono ?_); rintro ee w2 ⟨v2, N2, rfl, hN2, ho2, hY⟩; have hX2 := hide (hX1.out.trans hY); have hs2 := hide ho2.ew; have hs12 := hide (hs1.out.ext hY); have hN2' := hide hN2; have hb2 := hide (hb1.out.ext hY); (have i2 : In w.heap.size w2 := ⟨hb2.out.lt⟩); have y0 := hb2.out.cell 0 rfl; have y1 := hb2.out.cell 1 rfl; have y2 := hb2.out.cell 2 rfl; obtain ⟨A2, q2c, q2⟩ := own_form ho2.1; subst q2; clear ho2 hY hN2)) | (go_at_call 20; (have hsm := refEdgeSame_c hs12.out hs2.out; rw [hN1'.out, hN2'.out, hXX] at hsm; (with_reducible refine seq_gw hsm ?_); intro g3; clear hsm; have hX3 := hide (hX2.out.trans g3.grown))) | (go_at_call 12; first | ((with_reducible refine seq_gw (hO1.out _ hX3.out) ?_); intro g4; have hX4 := hide (hX3.out.trans g4.grown)) | ((with_reducible refine seq_gw (hO2.out _ hX4.out) ?_); intro g5; have hX5 := hide (hX4.out.trans g5.grown))) | (go_at_call 11; (with_reducible refine seq_gw (hl.out _) ?_); intro g9))
    go_returns
    exact ⟨by first | rfl | simp, hX5.out.trans g9.grown⟩
  subst h4
  have hlow := ahead_low hE1.symm hE2.symm (of_decide_eq_true hXX) (Int.le_of_lt h0)
  have hVV : V = V2 := by rw [hV, hV2]; exact wcV_low hG1.symm hG2.symm h0 hlow
  have hvv : (V != V2) = false := by rw [hVV]; simp
  by_cases h5 : K1 = 0
  case neg =>
    have hb : (K1 != 0) = true := by simpa using h5
    replace hE1 := hide hE1
    replace hE2 := hide hE2
    replace hG1 := hide hG1
    replace hG2 := hide hG2
    replace hV := hide hV
    replace hV2 := hide hV2
    replace hK1 := hide hK1
    replace hK2 := hide hK2
    clear hlow hVV
    go_enter Tryz.func5, Tryz.ntmps5
    go_wp2_with (first | (go_at_call 19; first | ((with_reducible refine (hA1.out _ hX0.out).mono ?_); rintro ee w1 ⟨v1, N1, rfl, hN1, ho1, hY⟩; have hX1 := hide (hX0.out.trans hY); have hs1 := hide ho1.ew; have hN1' := hide hN1; (have i1 : In w.heap.size w1 := ⟨Nat.lt_of_lt_of_le hbl hY.size⟩); have hb1 := hide (hb0.out.ext hY); obtain ⟨A1, q1c, q1⟩ := own_form ho1.1; subst q1; clear ho1 hY hN1) | ((with_reducible refine (hA2.out _ hX1.out).mono ?_); rintro ee w2 ⟨v2, N2, rfl, hN2, ho2, hY⟩; have hX2 := hide (hX1.out.trans hY); have hs2 := hide ho2.ew; have hs12 := hide (hs1.out.ext hY); have hN2' := hide hN2; have hb2 := hide (hb1.out.ext hY); (have i2 : In w.heap.size w2 := ⟨hb2.out.lt⟩); have y0 := hb2.out.cell 0 rfl; have y1 := hb2.out.cell 1 rfl; have y2 := hb2.out.cell 2 rfl; obtain ⟨A2, q2c, q2⟩ := own_form ho2.1; subst q2; clear ho2 hY hN2)) | (go_at_call 20; (have hsm := refEdgeSame_c hs12.out hs2.out; rw [hN1'.out, hN2'.out, hXX] at hsm; (with_reducible refine seq_gw hsm ?_); intro g3; clear hsm; have hX3 := hide (hX2.out.trans g3.grown))) | (go_at_call 12; first | ((with_reducible refine seq_gw (hO1.out _ hX3.out) ?_); intro g4; have hX4 := hide (hX3.out.trans g4.grown)) | ((with_reducible refine seq_gw (hO2.out _ hX4.out) ?_); intro g5; have hX5 := hide (hX4.out.trans g5.grown))) | (go_at_call 16; first | ((with_reducible refine (hp1.out _ hX5.out).mono ?_); rintro ee w6 ⟨v6, P6, rfl, hP6, ho6, hY⟩; have hX6 := hide (hX5.out.trans hY); have hQ6 := hide hP6; have hO6 := hide ho6; (have b6 := (((hb2.out.ext g3.grown).ext g4.grown).ext g5.grown).ext hY); (have i6 : In w.heap.size w6 := ⟨b6.lt⟩); have x0 := b6.cell 0 rfl; have x1 := b6.cell 1 rfl; have x2 := b6.cell 2 rfl; clear b6; obtain ⟨A6, q6c, q6⟩ := ho6.form; subst q6; clear ho6 hY hP6) | ((with_reducible refine (hp2.out _ hX6.out).mono ?_); rintro ee w7 ⟨v7, P7, rfl, hP7, ho7, hY⟩; have hX7 := hide (hX6.out.trans hY); have hQ7 := hide hP7; have hO7 := hide ho7; have hO67 := hide (hO6.out.ext hY); obtain ⟨A7, q7c, q7⟩ := ho7.form; subst q7; clear ho7 hY hP7)) | (go_at_call 11; (with_reducible refine seq_gw (hl.out _) ?_); intro g9))
    go_returns
    exact ⟨by first | rfl | simp, hX7.out.trans g9.grown⟩
  subst h5
  by_cases h6 : K2 = 0
  case neg =>
    have hb : (K2 != 0) = true := by simpa using h6
    replace hE1 := hide hE1
    replace hE2 := hide hE2
    replace hG1 := hide hG1
    replace hG2 := hide hG2
    replace hV := hide hV
    replace hV2 := hide hV2
    replace hK1 := hide hK1
    replace hK2 := hide hK2
    clear hlow hVV
    go_enter Tryz.func5, Tryz.ntmps5
    go_wp2_with (first | (go_at_call 19; first | ((with_reducible refine (hA1.out _ hX0.out).mono ?_); rintro ee w1 ⟨v1, N1, rfl, hN1, ho1, hY⟩; have hX1 := hide (hX0.out.trans hY); have hs1 := hide ho1.ew; have hN1' := hide hN1; (have i1 : In w.heap.size w1 := ⟨Nat.lt_of_lt_of_le hbl hY.size⟩); have hb1 := hide (hb0.out.ext hY); obtain ⟨A1, q1c, q1⟩ := own_form ho1.1; subst q1; clear ho1 hY hN1) | ((with_reducible refine (hA2.out _ hX1.out).mono ?_); rintro ee w2 ⟨v2, N2, rfl, hN2, ho2, hY⟩; have hX2 := hide (hX1.out.trans hY); have hs2 := hide ho2.ew; have hs12 := hide (hs1.out.ext hY); have hN2' := hide hN2; have hb2 := hide (hb1.out.ext hY); (have i2 : In w.heap.size w2 := ⟨hb2.out.lt⟩); have y0 := hb2.out.cell 0 rfl; have y1 := hb2.out.cell 1 rfl; have y2 := hb2.out.cell 2 rfl; obtain ⟨A2, q2c, q2⟩ := own_form ho2.1; subst q2; clear ho2 hY hN2)) | (go_at_call 20; (have hsm := refEdgeSame_c hs12.out hs2.out; rw [hN1'.out, hN2'.out, hXX] at hsm; (with_reducible refine seq_gw hsm ?_); intro g3; clear hsm; have hX3 := hide (hX2.out.trans g3.grown))) | (go_at_call 12; first | ((with_reducible refine seq_gw (hO1.out _ hX3.out) ?_); intro g4; have hX4 := hide (hX3.out.trans g4.grown)) | ((with_reducible refine seq_gw (hO2.out _ hX4.out) ?_); intro g5; have hX5 := hide (hX4.out.trans g5.grown))) | (go_at_call 16; first | ((with_reducible refine (hp1.out _ hX5.out).mono ?_); rintro ee w6 ⟨v6, P6, rfl, hP6, ho6, hY⟩; have hX6 := hide (hX5.out.trans hY); have hQ6 := hide hP6; have hO6 := hide ho6; (have b6 := (((hb2.out.ext g3.grown).ext g4.grown).ext g5.grown).ext hY); (have i6 : In w.heap.size w6 := ⟨b6.lt⟩); have x0 := b6.cell 0 rfl; have x1 := b6.cell 1 rfl; have x2 := b6.cell 2 rfl; clear b6; obtain ⟨A6, q6c, q6⟩ := ho6.form; subst q6; clear ho6 hY hP6) | ((with_reducible refine (hp2.out _ hX6.out).mono ?_); rintro ee w7 ⟨v7, P7, rfl, hP7, ho7, hY⟩; have hX7 := hide (hX6.out.trans hY); have hQ7 := hide hP7; have hO7 := hide ho7; have hO67 := hide (hO6.out.ext hY); obtain ⟨A7, q7c, q7⟩ := ho7.form; subst q7; clear ho7 hY hP7)) | (go_at_call 11; (with_reducible refine seq_gw (hl.out _) ?_); intro g9))
    go_returns
    exact ⟨by first | rfl | simp, hX7.out.trans g9.grown⟩
  subst h6
  have hf1 := wpL_low hK1.symm hK2.symm hG1.symm hG2.symm h0 hlow
  rw [← hV, ← hV2, ← hVV] at hf1
  subst hVV
  have hEQ : Hid (∀ P Q : List Vp, pts P = wpL k s h (eds L) 0 t → pts Q = wpL k s h (eds M) 0 t → pts (cutV P V) = pts (cutV Q V)) := fun P Q hP hQ => by
    rw [cutV_pts, cutV_pts, hP, hQ]
    exact hf1
  have hn1 : Hid (∀ P : List Vp, pts P = wpL k s h (eds L) 0 t → P.length ≤ 4096) := fun P hP => by
    have h1 := congrArg List.length hP
    rw [List.length_map] at h1
    have := wpL_len hK1.symm
    omega
  have hn2 : Hid (∀ P : List Vp, pts P = wpL k s h (eds M) 0 t → P.length ≤ 4096) := fun P hP => by
    have h1 := congrArg List.length hP
    rw [List.length_map] at h1
    have := wpL_len hK2.symm
    omega
  replace hE1 := hide hE1
  replace hE2 := hide hE2
  replace hG1 := hide hG1
  replace hG2 := hide hG2
  replace hV := hide hV
  replace hV2 := hide hV2
  replace hK1 := hide hK1
  replace hK2 := hide hK2
  clear hlow hf1
  go_enter Tryz.func5, Tryz.ntmps5
  go_wp2_with (first | (go_at_call 19; first | ((with_reducible refine (hA1.out _ hX0.out).mono ?_); rintro ee w1 ⟨v1, N1, rfl, hN1, ho1, hY⟩; have hX1 := hide (hX0.out.trans hY); have hs1 := hide ho1.ew; have hN1' := hide hN1; (have i1 : In w.heap.size w1 := ⟨Nat.lt_of_lt_of_le hbl hY.size⟩); have hb1 := hide (hb0.out.ext hY); obtain ⟨A1, q1c, q1⟩ := own_form ho1.1; subst q1; clear ho1 hY hN1) | ((with_reducible refine (hA2.out _ hX1.out).mono ?_); rintro ee w2 ⟨v2, N2, rfl, hN2, ho2, hY⟩; have hX2 := hide (hX1.out.trans hY); have hs2 := hide ho2.ew; have hs12 := hide (hs1.out.ext hY); have hN2' := hide hN2; have hb2 := hide (hb1.out.ext hY); (have i2 : In w.heap.size w2 := ⟨hb2.out.lt⟩); have y0 := hb2.out.cell 0 rfl; have y1 := hb2.out.cell 1 rfl; have y2 := hb2.out.cell 2 rfl; obtain ⟨A2, q2c, q2⟩ := own_form ho2.1; subst q2; clear ho2 hY hN2)) | (go_at_call 20; (have hsm := refEdgeSame_c hs12.out hs2.out; rw [hN1'.out, hN2'.out, hXX] at hsm; (with_reducible refine seq_gw hsm ?_); intro g3; clear hsm; have hX3 := hide (hX2.out.trans g3.grown))) | (go_at_call 12; first | ((with_reducible refine seq_gw (hO1.out _ hX3.out) ?_); intro g4; have hX4 := hide (hX3.out.trans g4.grown)) | ((with_reducible refine seq_gw (hO2.out _ hX4.out) ?_); intro g5; have hX5 := hide (hX4.out.trans g5.grown))) | (go_at_call 16; first | ((with_reducible refine (hp1.out _ hX5.out).mono ?_); rintro ee w6 ⟨v6, P6, rfl, hP6, ho6, hY⟩; have hX6 := hide (hX5.out.trans hY); have hQ6 := hide hP6; have hO6 := hide ho6; (have b6 := (((hb2.out.ext g3.grown).ext g4.grown).ext g5.grown).ext hY); (have i6 : In w.heap.size w6 := ⟨b6.lt⟩); have x0 := b6.cell 0 rfl; have x1 := b6.cell 1 rfl; have x2 := b6.cell 2 rfl; clear b6; obtain ⟨A6, q6c, q6⟩ := ho6.form; subst q6; clear ho6 hY hP6) | ((with_reducible refine (hp2.out _ hX6.out).mono ?_); rintro ee w7 ⟨v7, P7, rfl, hP7, ho7, hY⟩; have hX7 := hide (hX6.out.trans hY); have hQ7 := hide hP7; have hO7 := hide ho7; have hO67 := hide (hO6.out.ext hY); obtain ⟨A7, q7c, q7⟩ := ho7.form; subst q7; clear ho7 hY hP7)) | (go_at_call 21; first | ((with_reducible refine (refAhead27_c P6 V _ _ (hO67.out.ext g9.grown).pw (hn1.out _ hQ6.out)).mono ?_); rintro ee w8 ⟨v8, rfl, hp8, hY⟩; have hX8 := hide (hX7.out.trans (g9.grown.trans hY)); have hp8' := hide hp8; have hO78 := hide (hO7.out.ext (g9.grown.trans hY)); obtain ⟨A8, q8c, q8, -⟩ := pw_form hp8; subst q8; clear hp8 hY) | ((with_reducible refine (refAhead27_c P7 V _ _ hO78.out.pw (hn2.out _ hQ7.out)).mono ?_); rintro ee w10 ⟨v10, rfl, hp10, hY⟩; have hX10 := hide (hX8.out.trans hY); have hp10' := hide hp10; have hp810 := hide (hp8'.out.ext hY); obtain ⟨A10, q10c, q10, -⟩ := pw_form hp10; subst q10; clear hp10 hY)) | (go_at_call 11; (with_reducible refine seq_gw (hl.out _) ?_); intro g9) | (go_at_call 18; (with_reducible refine seq_gw (refSameParts_c _ _ (hEQ.out P6 P7 hQ6.out hQ7.out) _ _ _ hp810.out hp10'.out) ?_); intro g11))
  go_returns
  exact ⟨by first | rfl | simp, hX10.out.trans g11.grown⟩
set_option maxHeartbeats 16000000 in
set_option maxRecDepth 100000 in
theorem windowForgets_walk (k s h : Int) (L : List Ve) (t : Int) (v : Value) (w : World) (hL : Ew w [] v L) : Calls Tryz.prog 6 #[wV k s h, v, .int .i64 t] w fun e w' => e = .returned (.bool true) ∧ Ext w w' := by
  have hl := hide wLive_c
  have hb0 := hide (Ob.new w 24 (wL k s h))
  have hX0 := hide ((Ext.refl w).alloc (.cells #[.int .i64 k, .int .i64 s, .int .i64 h] 24))
  have hbl := hb0.out.lt
  have c0 := hb0.out.cell 0 rfl
  have c1 := hb0.out.cell 1 rfl
  have c2 := hb0.out.cell 2 rfl
  haveI : In w.heap.size (w.alloc (.cells #[.int .i64 k, .int .i64 s, .int .i64 h] 24)) := ⟨hbl⟩
  have hO1 := hide (fun w' (hX : Ext w w') => wclock_c k s h L t v w' (hL.ext hX))
  obtain ⟨V, hV⟩ : ∃ V, V = wcV k s h (eds L) t := ⟨_, rfl⟩
  obtain ⟨E, hE⟩ : ∃ E, E = wrE k s h (eds L) t := ⟨_, rfl⟩
  rw [← hV, ← hE] at hO1
  have hre := hide (fun w' (hX : Ext w w') => edgeRest_c L V v w' (hL.ext hX))
  have hp1 := hide (fun w' (hX : Ext w w') => wparts_c k s h L V t v w' (hL.ext hX))
  obtain ⟨A, cap, rfl, hlc, hlm, -⟩ := ew_form hL
  unfold maxLen at hlm
  clear hL
  obtain ⟨F, hF⟩ : ∃ F, F = mpE (reOp V) (eds L) := ⟨_, rfl⟩
  rw [← hF] at hre
  by_cases h1 : E = 0
  case neg =>
    have hb : (E != 0) = true := by simpa using h1
    replace hV := hide hV
    replace hE := hide hE
    replace hF := hide hF
    go_enter Tryz.func6, Tryz.ntmps6
    go_wp2_with (first | (go_at_call 12; first | ((with_reducible refine seq_gw (hO1.out _ hX0.out) ?_); intro g1; have hX1 := hide (hX0.out.trans g1.grown); (have b1 := hb0.out.ext g1.grown); have y0 := b1.cell 0 rfl; have y1 := b1.cell 1 rfl; have y2 := b1.cell 2 rfl; have hb1 := hide b1; clear b1) | ((with_reducible refine seq_gw hO2.out ?_); intro g3; have hX3 := hide (hX2.out.trans g3.grown))) | (go_at_call 22; refine (hre.out _ hX1.out).mono ?_; rintro ee w2 ⟨v2, N2, rfl, hN2, ho2, hY⟩; have hX2 := hide (hX1.out.trans hY); have hs2 := hide ho2.ew; have hN2' := hide hN2; (have b2 := hb1.out.ext hY); (have i2 : In w.heap.size w2 := ⟨b2.lt⟩); have z0 := b2.cell 0 rfl; have z1 := b2.cell 1 rfl; have z2 := b2.cell 2 rfl; have hb2 := hide b2; clear b2; obtain ⟨A2, q2c, q2⟩ := own_form ho2.1; subst q2; clear ho2 hY hN2) | (go_at_call 11; (with_reducible refine seq_gw (hl.out _) ?_); intro g9))
    go_returns
    exact ⟨by first | rfl | simp, hX2.out.trans g9.grown⟩
  subst h1
  by_cases h2 : F = 0
  case neg =>
    have hb : (F != 0) = true := by simpa using h2
    replace hV := hide hV
    replace hE := hide hE
    replace hF := hide hF
    go_enter Tryz.func6, Tryz.ntmps6
    go_wp2_with (first | (go_at_call 12; first | ((with_reducible refine seq_gw (hO1.out _ hX0.out) ?_); intro g1; have hX1 := hide (hX0.out.trans g1.grown); (have b1 := hb0.out.ext g1.grown); have y0 := b1.cell 0 rfl; have y1 := b1.cell 1 rfl; have y2 := b1.cell 2 rfl; have hb1 := hide b1; clear b1) | ((with_reducible refine seq_gw hO2.out ?_); intro g3; have hX3 := hide (hX2.out.trans g3.grown))) | (go_at_call 22; refine (hre.out _ hX1.out).mono ?_; rintro ee w2 ⟨v2, N2, rfl, hN2, ho2, hY⟩; have hX2 := hide (hX1.out.trans hY); have hs2 := hide ho2.ew; have hN2' := hide hN2; (have b2 := hb1.out.ext hY); (have i2 : In w.heap.size w2 := ⟨b2.lt⟩); have z0 := b2.cell 0 rfl; have z1 := b2.cell 1 rfl; have z2 := b2.cell 2 rfl; have hb2 := hide b2; clear b2; obtain ⟨A2, q2c, q2⟩ := own_form ho2.1; subst q2; clear ho2 hY hN2) | (go_at_call 11; (with_reducible refine seq_gw (hl.out _) ?_); intro g9))
    go_returns
    exact ⟨by first | rfl | simp, hX2.out.trans g9.grown⟩
  subst h2
  by_cases h0 : t < 1125899906842624
  case neg =>
    have h0' : 1125899906842624 ≤ t := by omega
    replace hV := hide hV
    replace hE := hide hE
    replace hF := hide hF
    clear h0
    go_enter Tryz.func6, Tryz.ntmps6
    go_wp2_with (first | (go_at_call 12; first | ((with_reducible refine seq_gw (hO1.out _ hX0.out) ?_); intro g1; have hX1 := hide (hX0.out.trans g1.grown); (have b1 := hb0.out.ext g1.grown); have y0 := b1.cell 0 rfl; have y1 := b1.cell 1 rfl; have y2 := b1.cell 2 rfl; have hb1 := hide b1; clear b1) | ((with_reducible refine seq_gw hO2.out ?_); intro g3; have hX3 := hide (hX2.out.trans g3.grown))) | (go_at_call 22; refine (hre.out _ hX1.out).mono ?_; rintro ee w2 ⟨v2, N2, rfl, hN2, ho2, hY⟩; have hX2 := hide (hX1.out.trans hY); have hs2 := hide ho2.ew; have hN2' := hide hN2; (have b2 := hb1.out.ext hY); (have i2 : In w.heap.size w2 := ⟨b2.lt⟩); have z0 := b2.cell 0 rfl; have z1 := b2.cell 1 rfl; have z2 := b2.cell 2 rfl; have hb2 := hide b2; clear b2; obtain ⟨A2, q2c, q2⟩ := own_form ho2.1; subst q2; clear ho2 hY hN2) | (go_at_call 11; (with_reducible refine seq_gw (hl.out _) ?_); intro g9))
    go_returns
    exact ⟨by first | rfl | simp, hX2.out.trans g9.grown⟩
  obtain ⟨hr2, hr1, hk1, hk2⟩ := wrest hE.symm hV h0 hF.symm
  obtain ⟨GE, hGE⟩ : ∃ GE, GE = wpE k s h (eds L) V t := ⟨_, rfl⟩
  obtain ⟨GL, hGL⟩ : ∃ GL, GL = wpL k s h (eds L) V t := ⟨_, rfl⟩
  rw [← hGE, ← hGL] at hp1
  rw [← hGE] at hk1
  rw [← hGL] at hk2
  have hvv : (V == V) = true := by simp
  have hgg : (GE == GE) = true := by simp
  replace hr1 := hide hr1
  replace hr2 := hide hr2
  replace hk1 := hide hk1
  replace hk2 := hide hk2
  replace hGE := hide hGE
  replace hGL := hide hGL
  replace hV := hide hV
  replace hE := hide hE
  replace hF := hide hF
  go_enter Tryz.func6, Tryz.ntmps6
  go_wp2_with (first | (go_at_call 22; refine (hre.out _ hX1.out).mono ?_; rintro ee w2 ⟨v2, N2, rfl, hN2, ho2, hY⟩; have hX2 := hide (hX1.out.trans hY); have hs2 := hide ho2.ew; have hN2' := hide hN2; (have b2 := hb1.out.ext hY); (have i2 : In w.heap.size w2 := ⟨b2.lt⟩); have z0 := b2.cell 0 rfl; have z1 := b2.cell 1 rfl; have z2 := b2.cell 2 rfl; have hb2 := hide b2; clear b2; obtain ⟨A2, q2c, q2⟩ := own_form ho2.1; subst q2; have hO2 := wclock_c k s h N2 t _ w2 hs2.out; rw [hN2'.out, hr1.out, hr2.out] at hO2; replace hO2 := hide hO2; clear ho2 hY hN2) | (go_at_call 12; first | ((with_reducible refine seq_gw (hO1.out _ hX0.out) ?_); intro g1; have hX1 := hide (hX0.out.trans g1.grown); (have b1 := hb0.out.ext g1.grown); have y0 := b1.cell 0 rfl; have y1 := b1.cell 1 rfl; have y2 := b1.cell 2 rfl; have hb1 := hide b1; clear b1) | ((with_reducible refine seq_gw hO2.out ?_); intro g3; have hX3 := hide (hX2.out.trans g3.grown))) | (go_at_call 16; first | ((with_reducible refine (hp1.out _ hX3.out).mono ?_); rintro ee w4 ⟨v4, P4, rfl, hP4, ho4, hY⟩; have hX4 := hide (hX3.out.trans hY); have hQ4 := hide hP4; have hO4 := hide ho4; have hp2 := wparts_c k s h N2 V t _ w4 (hs2.out.ext (g3.grown.trans hY)); rw [hN2'.out, ← hk1.out, ← hk2.out] at hp2; replace hp2 := hide hp2; (have b4 := (hb2.out.ext g3.grown).ext hY); (have i4 : In w.heap.size w4 := ⟨b4.lt⟩); have x0 := b4.cell 0 rfl; have x1 := b4.cell 1 rfl; have x2 := b4.cell 2 rfl; clear b4; obtain ⟨A4, q4c, q4⟩ := ho4.form; subst q4; clear ho4 hY hP4) | ((with_reducible refine hp2.out.mono ?_); rintro ee w5 ⟨v5, P5, rfl, hP5, ho5, hY⟩; have hX5 := hide (hX4.out.trans hY); have hQ5 := hide hP5; have hO5 := hide ho5; have hO45 := hide (hO4.out.ext hY); obtain ⟨A5, q5c, q5⟩ := ho5.form; subst q5; clear ho5 hY hP5)) | (go_at_call 11; (with_reducible refine seq_gw (hl.out _) ?_); intro g9) | (go_at_call 18; (with_reducible refine seq_gw (refSameParts_c P4 P5 (hQ4.out.trans hQ5.out.symm) _ _ _ (hO45.out.ext g9.grown).pw (hO5.out.ext g9.grown).pw) ?_); intro g10))
  go_returns
  exact ⟨by first | rfl | simp, (hX5.out.trans g9.grown).trans g10.grown⟩
set_option maxHeartbeats 16000000 in
set_option maxRecDepth 100000 in
theorem windowRises_walk (k s h : Int) (L M : List Ve) (t r : Int) (v u : Value) (w : World) (hL : Ew w [] v L) (hM : Ew w [] u M) : Calls Tryz.prog 7 #[wV k s h, v, u, .int .i64 t, .int .i64 r] w fun e w' => e = .returned (.bool true) ∧ Ext w w' := by
  have hl := hide wLive_c
  have hb0 := hide (Ob.new w 24 (wL k s h))
  have hX0 := hide ((Ext.refl w).alloc (.cells #[.int .i64 k, .int .i64 s, .int .i64 h] 24))
  have hbl := hb0.out.lt
  have c0 := hb0.out.cell 0 rfl
  have c1 := hb0.out.cell 1 rfl
  have c2 := hb0.out.cell 2 rfl
  haveI : In w.heap.size (w.alloc (.cells #[.int .i64 k, .int .i64 s, .int .i64 h] 24)) := ⟨hbl⟩
  have hA1 := hide (fun w' (hX : Ext w w') => edgeAhead_c L t v w' (hL.ext hX))
  have hA2 := hide (fun w' (hX : Ext w w') => edgeAhead_c M t u w' (hM.ext hX))
  have hO1 := hide (fun w' (hX : Ext w w') => wclock_c k s h L t v w' (hL.ext hX))
  have hO2 := hide (fun w' (hX : Ext w w') => wclock_c k s h M r u w' (hM.ext hX))
  obtain ⟨A, cap, rfl, hlc, hlm, -⟩ := ew_form hL
  obtain ⟨B, cap2, rfl, hmc, hmm, -⟩ := ew_form hM
  unfold maxLen at hlm hmm
  clear hL hM
  obtain ⟨E1, hE1⟩ : ∃ E, E = mpE (ahOp t) (eds L) := ⟨_, rfl⟩
  obtain ⟨E2, hE2⟩ : ∃ E, E = mpE (ahOp t) (eds M) := ⟨_, rfl⟩
  obtain ⟨G1, hG1⟩ : ∃ E, E = wrE k s h (eds L) t := ⟨_, rfl⟩
  obtain ⟨G2, hG2⟩ : ∃ E, E = wrE k s h (eds M) r := ⟨_, rfl⟩
  obtain ⟨V, hV⟩ : ∃ E, E = wcV k s h (eds L) t := ⟨_, rfl⟩
  obtain ⟨V2, hV2⟩ : ∃ E, E = wcV k s h (eds M) r := ⟨_, rfl⟩
  rw [← hE1] at hA1
  rw [← hE2] at hA2
  rw [← hG1, ← hV] at hO1
  rw [← hG2, ← hV2] at hO2
  by_cases h1 : E1 = 0
  case neg =>
    have hb : (E1 != 0) = true := by simpa using h1
    replace hE1 := hide hE1
    replace hE2 := hide hE2
    replace hG1 := hide hG1
    replace hG2 := hide hG2
    replace hV := hide hV
    replace hV2 := hide hV2
    go_enter Tryz.func7, Tryz.ntmps7
    go_wp2_with (first | (go_at_call 19; first | ((with_reducible refine (hA1.out _ hX0.out).mono ?_); rintro ee w1 ⟨v1, N1, rfl, hN1, ho1, hY⟩; have hX1 := hide (hX0.out.trans hY); have hs1 := hide ho1.ew; have hN1' := hide hN1; (have i1 : In w.heap.size w1 := ⟨Nat.lt_of_lt_of_le hbl hY.size⟩); have hb1 := hide (hb0.out.ext hY); obtain ⟨A1, q1c, q1⟩ := own_form ho1.1; subst q1; clear ho1 hY hN1) | ((with_reducible refine (hA2.out _ hX1.out).mono ?_); rintro ee w2 ⟨v2, N2, rfl, hN2, ho2, hY⟩; have hX2 := hide (hX1.out.trans hY); have hs2 := hide ho2.ew; have hs12 := hide (hs1.out.ext hY); have hN2' := hide hN2; have hb2 := hide (hb1.out.ext hY); (have i2 : In w.heap.size w2 := ⟨hb2.out.lt⟩); have y0 := hb2.out.cell 0 rfl; have y1 := hb2.out.cell 1 rfl; have y2 := hb2.out.cell 2 rfl; obtain ⟨A2, q2c, q2⟩ := own_form ho2.1; subst q2; clear ho2 hY hN2)) | (go_at_call 11; (with_reducible refine seq_gw (hl.out _) ?_); intro g9))
    go_returns
    exact ⟨by first | rfl | simp, hX2.out.trans g9.grown⟩
  subst h1
  by_cases h2 : E2 = 0
  case neg =>
    have hb : (E2 != 0) = true := by simpa using h2
    replace hE1 := hide hE1
    replace hE2 := hide hE2
    replace hG1 := hide hG1
    replace hG2 := hide hG2
    replace hV := hide hV
    replace hV2 := hide hV2
    go_enter Tryz.func7, Tryz.ntmps7
    go_wp2_with (first | (go_at_call 19; first | ((with_reducible refine (hA1.out _ hX0.out).mono ?_); rintro ee w1 ⟨v1, N1, rfl, hN1, ho1, hY⟩; have hX1 := hide (hX0.out.trans hY); have hs1 := hide ho1.ew; have hN1' := hide hN1; (have i1 : In w.heap.size w1 := ⟨Nat.lt_of_lt_of_le hbl hY.size⟩); have hb1 := hide (hb0.out.ext hY); obtain ⟨A1, q1c, q1⟩ := own_form ho1.1; subst q1; clear ho1 hY hN1) | ((with_reducible refine (hA2.out _ hX1.out).mono ?_); rintro ee w2 ⟨v2, N2, rfl, hN2, ho2, hY⟩; have hX2 := hide (hX1.out.trans hY); have hs2 := hide ho2.ew; have hs12 := hide (hs1.out.ext hY); have hN2' := hide hN2; have hb2 := hide (hb1.out.ext hY); (have i2 : In w.heap.size w2 := ⟨hb2.out.lt⟩); have y0 := hb2.out.cell 0 rfl; have y1 := hb2.out.cell 1 rfl; have y2 := hb2.out.cell 2 rfl; obtain ⟨A2, q2c, q2⟩ := own_form ho2.1; subst q2; clear ho2 hY hN2)) | (go_at_call 11; (with_reducible refine seq_gw (hl.out _) ?_); intro g9))
    go_returns
    exact ⟨by first | rfl | simp, hX2.out.trans g9.grown⟩
  subst h2
  cases hXX : decide (mpR (ahOp t) (eds L) = mpR (ahOp t) (eds M))
  · replace hE1 := hide hE1
    replace hE2 := hide hE2
    replace hG1 := hide hG1
    replace hG2 := hide hG2
    replace hV := hide hV
    replace hV2 := hide hV2
    go_enter Tryz.func7, Tryz.ntmps7
    go_wp2_with (first | (go_at_call 19; first | ((with_reducible refine (hA1.out _ hX0.out).mono ?_); rintro ee w1 ⟨v1, N1, rfl, hN1, ho1, hY⟩; have hX1 := hide (hX0.out.trans hY); have hs1 := hide ho1.ew; have hN1' := hide hN1; (have i1 : In w.heap.size w1 := ⟨Nat.lt_of_lt_of_le hbl hY.size⟩); have hb1 := hide (hb0.out.ext hY); obtain ⟨A1, q1c, q1⟩ := own_form ho1.1; subst q1; clear ho1 hY hN1) | ((with_reducible refine (hA2.out _ hX1.out).mono ?_); rintro ee w2 ⟨v2, N2, rfl, hN2, ho2, hY⟩; have hX2 := hide (hX1.out.trans hY); have hs2 := hide ho2.ew; have hs12 := hide (hs1.out.ext hY); have hN2' := hide hN2; have hb2 := hide (hb1.out.ext hY); (have i2 : In w.heap.size w2 := ⟨hb2.out.lt⟩); have y0 := hb2.out.cell 0 rfl; have y1 := hb2.out.cell 1 rfl; have y2 := hb2.out.cell 2 rfl; obtain ⟨A2, q2c, q2⟩ := own_form ho2.1; subst q2; clear ho2 hY hN2)) | (go_at_call 20; (have hsm := refEdgeSame_c hs12.out hs2.out; rw [hN1'.out, hN2'.out, hXX] at hsm; (with_reducible refine seq_gw hsm ?_); intro g3; clear hsm; have hX3 := hide (hX2.out.trans g3.grown))) | (go_at_call 11; (with_reducible refine seq_gw (hl.out _) ?_); intro g9))
    go_returns
    exact ⟨by first | rfl | simp, hX3.out.trans g9.grown⟩
  by_cases h7 : r < t
  · replace hE1 := hide hE1
    replace hE2 := hide hE2
    replace hG1 := hide hG1
    replace hG2 := hide hG2
    replace hV := hide hV
    replace hV2 := hide hV2
    go_enter Tryz.func7, Tryz.ntmps7
    go_wp2_with (first | (go_at_call 19; first | ((with_reducible refine (hA1.out _ hX0.out).mono ?_); rintro ee w1 ⟨v1, N1, rfl, hN1, ho1, hY⟩; have hX1 := hide (hX0.out.trans hY); have hs1 := hide ho1.ew; have hN1' := hide hN1; (have i1 : In w.heap.size w1 := ⟨Nat.lt_of_lt_of_le hbl hY.size⟩); have hb1 := hide (hb0.out.ext hY); obtain ⟨A1, q1c, q1⟩ := own_form ho1.1; subst q1; clear ho1 hY hN1) | ((with_reducible refine (hA2.out _ hX1.out).mono ?_); rintro ee w2 ⟨v2, N2, rfl, hN2, ho2, hY⟩; have hX2 := hide (hX1.out.trans hY); have hs2 := hide ho2.ew; have hs12 := hide (hs1.out.ext hY); have hN2' := hide hN2; have hb2 := hide (hb1.out.ext hY); (have i2 : In w.heap.size w2 := ⟨hb2.out.lt⟩); have y0 := hb2.out.cell 0 rfl; have y1 := hb2.out.cell 1 rfl; have y2 := hb2.out.cell 2 rfl; obtain ⟨A2, q2c, q2⟩ := own_form ho2.1; subst q2; clear ho2 hY hN2)) | (go_at_call 20; (have hsm := refEdgeSame_c hs12.out hs2.out; rw [hN1'.out, hN2'.out, hXX] at hsm; (with_reducible refine seq_gw hsm ?_); intro g3; clear hsm; have hX3 := hide (hX2.out.trans g3.grown))) | (go_at_call 11; (with_reducible refine seq_gw (hl.out _) ?_); intro g9))
    go_returns
    exact ⟨by first | rfl | simp, hX3.out.trans g9.grown⟩
  by_cases h0 : t < 1125899906842624
  case neg =>
    have h0' : 1125899906842624 ≤ t := by omega
    replace hE1 := hide hE1
    replace hE2 := hide hE2
    replace hG1 := hide hG1
    replace hG2 := hide hG2
    replace hV := hide hV
    replace hV2 := hide hV2
    clear h0
    go_enter Tryz.func7, Tryz.ntmps7
    go_wp2_with (first | (go_at_call 19; first | ((with_reducible refine (hA1.out _ hX0.out).mono ?_); rintro ee w1 ⟨v1, N1, rfl, hN1, ho1, hY⟩; have hX1 := hide (hX0.out.trans hY); have hs1 := hide ho1.ew; have hN1' := hide hN1; (have i1 : In w.heap.size w1 := ⟨Nat.lt_of_lt_of_le hbl hY.size⟩); have hb1 := hide (hb0.out.ext hY); obtain ⟨A1, q1c, q1⟩ := own_form ho1.1; subst q1; clear ho1 hY hN1) | ((with_reducible refine (hA2.out _ hX1.out).mono ?_); rintro ee w2 ⟨v2, N2, rfl, hN2, ho2, hY⟩; have hX2 := hide (hX1.out.trans hY); have hs2 := hide ho2.ew; have hs12 := hide (hs1.out.ext hY); have hN2' := hide hN2; have hb2 := hide (hb1.out.ext hY); (have i2 : In w.heap.size w2 := ⟨hb2.out.lt⟩); have y0 := hb2.out.cell 0 rfl; have y1 := hb2.out.cell 1 rfl; have y2 := hb2.out.cell 2 rfl; obtain ⟨A2, q2c, q2⟩ := own_form ho2.1; subst q2; clear ho2 hY hN2)) | (go_at_call 20; (have hsm := refEdgeSame_c hs12.out hs2.out; rw [hN1'.out, hN2'.out, hXX] at hsm; (with_reducible refine seq_gw hsm ?_); intro g3; clear hsm; have hX3 := hide (hX2.out.trans g3.grown))) | (go_at_call 11; (with_reducible refine seq_gw (hl.out _) ?_); intro g9))
    go_returns
    exact ⟨by first | rfl | simp, hX3.out.trans g9.grown⟩
  by_cases h3 : G1 = 0
  case neg =>
    have hb : (G1 != 0) = true := by simpa using h3
    replace hE1 := hide hE1
    replace hE2 := hide hE2
    replace hG1 := hide hG1
    replace hG2 := hide hG2
    replace hV := hide hV
    replace hV2 := hide hV2
    go_enter Tryz.func7, Tryz.ntmps7
    go_wp2_with (first | (go_at_call 19; first | ((with_reducible refine (hA1.out _ hX0.out).mono ?_); rintro ee w1 ⟨v1, N1, rfl, hN1, ho1, hY⟩; have hX1 := hide (hX0.out.trans hY); have hs1 := hide ho1.ew; have hN1' := hide hN1; (have i1 : In w.heap.size w1 := ⟨Nat.lt_of_lt_of_le hbl hY.size⟩); have hb1 := hide (hb0.out.ext hY); obtain ⟨A1, q1c, q1⟩ := own_form ho1.1; subst q1; clear ho1 hY hN1) | ((with_reducible refine (hA2.out _ hX1.out).mono ?_); rintro ee w2 ⟨v2, N2, rfl, hN2, ho2, hY⟩; have hX2 := hide (hX1.out.trans hY); have hs2 := hide ho2.ew; have hs12 := hide (hs1.out.ext hY); have hN2' := hide hN2; have hb2 := hide (hb1.out.ext hY); (have i2 : In w.heap.size w2 := ⟨hb2.out.lt⟩); have y0 := hb2.out.cell 0 rfl; have y1 := hb2.out.cell 1 rfl; have y2 := hb2.out.cell 2 rfl; obtain ⟨A2, q2c, q2⟩ := own_form ho2.1; subst q2; clear ho2 hY hN2)) | (go_at_call 20; (have hsm := refEdgeSame_c hs12.out hs2.out; rw [hN1'.out, hN2'.out, hXX] at hsm; (with_reducible refine seq_gw hsm ?_); intro g3; clear hsm; have hX3 := hide (hX2.out.trans g3.grown))) | (go_at_call 12; first | ((with_reducible refine seq_gw (hO1.out _ hX3.out) ?_); intro g4; have hX4 := hide (hX3.out.trans g4.grown)) | ((with_reducible refine seq_gw (hO2.out _ hX4.out) ?_); intro g5; have hX5 := hide (hX4.out.trans g5.grown))) | (go_at_call 11; (with_reducible refine seq_gw (hl.out _) ?_); intro g9))
    go_returns
    exact ⟨by first | rfl | simp, hX5.out.trans g9.grown⟩
  subst h3
  by_cases h4 : G2 = 0
  case neg =>
    have hb : (G2 != 0) = true := by simpa using h4
    replace hE1 := hide hE1
    replace hE2 := hide hE2
    replace hG1 := hide hG1
    replace hG2 := hide hG2
    replace hV := hide hV
    replace hV2 := hide hV2
    go_enter Tryz.func7, Tryz.ntmps7
    go_wp2_with (first | (go_at_call 19; first | ((with_reducible refine (hA1.out _ hX0.out).mono ?_); rintro ee w1 ⟨v1, N1, rfl, hN1, ho1, hY⟩; have hX1 := hide (hX0.out.trans hY); have hs1 := hide ho1.ew; have hN1' := hide hN1; (have i1 : In w.heap.size w1 := ⟨Nat.lt_of_lt_of_le hbl hY.size⟩); have hb1 := hide (hb0.out.ext hY); obtain ⟨A1, q1c, q1⟩ := own_form ho1.1; subst q1; clear ho1 hY hN1) | ((with_reducible refine (hA2.out _ hX1.out).mono ?_); rintro ee w2 ⟨v2, N2, rfl, hN2, ho2, hY⟩; have hX2 := hide (hX1.out.trans hY); have hs2 := hide ho2.ew; have hs12 := hide (hs1.out.ext hY); have hN2' := hide hN2; have hb2 := hide (hb1.out.ext hY); (have i2 : In w.heap.size w2 := ⟨hb2.out.lt⟩); have y0 := hb2.out.cell 0 rfl; have y1 := hb2.out.cell 1 rfl; have y2 := hb2.out.cell 2 rfl; obtain ⟨A2, q2c, q2⟩ := own_form ho2.1; subst q2; clear ho2 hY hN2)) | (go_at_call 20; (have hsm := refEdgeSame_c hs12.out hs2.out; rw [hN1'.out, hN2'.out, hXX] at hsm; (with_reducible refine seq_gw hsm ?_); intro g3; clear hsm; have hX3 := hide (hX2.out.trans g3.grown))) | (go_at_call 12; first | ((with_reducible refine seq_gw (hO1.out _ hX3.out) ?_); intro g4; have hX4 := hide (hX3.out.trans g4.grown)) | ((with_reducible refine seq_gw (hO2.out _ hX4.out) ?_); intro g5; have hX5 := hide (hX4.out.trans g5.grown))) | (go_at_call 11; (with_reducible refine seq_gw (hl.out _) ?_); intro g9))
    go_returns
    exact ⟨by first | rfl | simp, hX5.out.trans g9.grown⟩
  subst h4
  have hlow := ahead_low hE1.symm hE2.symm (of_decide_eq_true hXX) (Int.le_of_lt h0)
  have hVV : V ≤ V2 := by rw [hV, hV2]; exact wcV_mono hG1.symm hG2.symm (wrE_zero hG2.symm).2.1 (by omega) h0 hlow
  replace hE1 := hide hE1
  replace hE2 := hide hE2
  replace hG1 := hide hG1
  replace hG2 := hide hG2
  replace hV := hide hV
  replace hV2 := hide hV2
  clear hlow
  go_enter Tryz.func7, Tryz.ntmps7
  go_wp2_with (first | (go_at_call 19; first | ((with_reducible refine (hA1.out _ hX0.out).mono ?_); rintro ee w1 ⟨v1, N1, rfl, hN1, ho1, hY⟩; have hX1 := hide (hX0.out.trans hY); have hs1 := hide ho1.ew; have hN1' := hide hN1; (have i1 : In w.heap.size w1 := ⟨Nat.lt_of_lt_of_le hbl hY.size⟩); have hb1 := hide (hb0.out.ext hY); obtain ⟨A1, q1c, q1⟩ := own_form ho1.1; subst q1; clear ho1 hY hN1) | ((with_reducible refine (hA2.out _ hX1.out).mono ?_); rintro ee w2 ⟨v2, N2, rfl, hN2, ho2, hY⟩; have hX2 := hide (hX1.out.trans hY); have hs2 := hide ho2.ew; have hs12 := hide (hs1.out.ext hY); have hN2' := hide hN2; have hb2 := hide (hb1.out.ext hY); (have i2 : In w.heap.size w2 := ⟨hb2.out.lt⟩); have y0 := hb2.out.cell 0 rfl; have y1 := hb2.out.cell 1 rfl; have y2 := hb2.out.cell 2 rfl; obtain ⟨A2, q2c, q2⟩ := own_form ho2.1; subst q2; clear ho2 hY hN2)) | (go_at_call 20; (have hsm := refEdgeSame_c hs12.out hs2.out; rw [hN1'.out, hN2'.out, hXX] at hsm; (with_reducible refine seq_gw hsm ?_); intro g3; clear hsm; have hX3 := hide (hX2.out.trans g3.grown))) | (go_at_call 12; first | ((with_reducible refine seq_gw (hO1.out _ hX3.out) ?_); intro g4; have hX4 := hide (hX3.out.trans g4.grown)) | ((with_reducible refine seq_gw (hO2.out _ hX4.out) ?_); intro g5; have hX5 := hide (hX4.out.trans g5.grown))) | (go_at_call 11; (with_reducible refine seq_gw (hl.out _) ?_); intro g9))
  go_returns
  exact ⟨by first | rfl | simp, hX5.out.trans g9.grown⟩
end Go.Proofs.YtljkneajdndgjaaGreat
