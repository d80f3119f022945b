/-
  A helper of ours: no claim of its own. Layer 29 (counts): which windows begin ahead of a tick, as the statement asks; the walks of CountsSettles and CountsForgets.
-/
import Derived.Test.YtljkneajdndgjaaEdgQ
import Derived.Test.YtljkneajdndgjaaHopZ
set_option linter.unusedVariables false
set_option linter.unusedSimpArgs false
namespace Go.Proofs.Ytljkneajdndgjaa
open Go.RowKit
attribute [local go_sem] GW.cell GW.frozen In.eq_true In.le_true In.ne In.ne' In.ne_add In.ne_add' In.lt_add Upto.le_true Upto.le_add Upto.lt_add
set_option maxHeartbeats 8000000 in
set_option maxRecDepth 100000 in
theorem cahead_c (P : List Vp) (T : Int) (v : Value) (w : World) (h : Pw w [] v P) (hl : P.length ≤ 4096) : Calls Try.prog 18 #[v, .int .i64 T] w fun e w' => ∃ v', e = .returned v' ∧ Pw w' [] v' (P.filter fun p => decide (p.2.1.1 < T)) ∧ Ext w w' := by
  have h' := hide h
  obtain ⟨A, cap, rfl, -, -, -⟩ := pw_form h
  clear h
  have hz0 := hide (World.ownsRow_lit (base := w.heap.size) (e := 44) (size := 3) w #[] 0 (Nat.le_refl _) (by decide) rfl)
  go_enter Try.func18, Try.ntmps18
  go_wp2_with fail
  go_loopg [5, 6] P.length (fun gh u i wr => ∃ (k : Nat) (Q : List Vp), i = .int .i64 k ∧ k + gh = P.length ∧ Hid (wr.ownsRow w.heap.size 44 3 u Q.length (pt Q)) ∧ Hid (Q = (P.take k).filter fun p => decide (p.2.1.1 < T)) ∧ Q.length ≤ k ∧ Hid (Ext w wr))
  case atStart => exact ⟨0, [], by go_num, by omega, hz0, rfl, by simp, (Ext.refl w).alloc _⟩
  case round =>
    clear hz0
    obtain ⟨k, Q, rfl, hk, hO, hQ, hQl, hX⟩ := hrel
    obtain ⟨QA, qcap, rfl⟩ := own_form hO.out
    by_cases hlt : k < P.length
    · obtain ⟨⟨x, ⟨s, u⟩, D⟩, hd⟩ : ∃ p, P[k]? = some p := ⟨_, List.getElem?_eq_getElem hlt⟩
      have hnx := hide (show P.take (k + 1) = P.take k ++ [(x, (s, u), D)] by rw [List.take_add_one, hd]; rfl)
      obtain ⟨A', cap', e', -, -, hat⟩ := pw_form (h'.out.ext hX.out)
      simp only [Value.slice.injEq] at e'
      obtain ⟨rfl, -, rfl⟩ := e'
      obtain ⟨b, o, rfl, -, hbl, d0, d1, d2⟩ := hat k _ hd
      have hD := (h'.out.ext hX.out).2 _ (List.mem_of_getElem? hd)
      simp only at d0 d1 d2 hD
      obtain ⟨DA, dcap, rfl⟩ := cw_val hD
      haveI : In b wr := ⟨hbl⟩
      have hobQ := ob_ge hO.out
      have hzw := hX.out.size
      clear hat hd hD
      by_cases h1 : s < T
      · have hO1 := hide hO.out
        go_wp2_with (at_builtin; refine wpl_app tPa rfl (.tmp 22) (.tmp 27) rfl rfl (own_ext hO1.out ((Ext.refl wr).alloc _)) rfl (src_sl Try.underlying32 (sl_lit wr 44 3 [.int .i64 s, .int .i64 u, .slice DA D.length dcap] rfl) (by intro u hu; simp at hu; rcases hu with rfl | rfl | rfl <;> rfl) (by omega)) (by unfold maxLen; omega) (by omega) (by simp only [World.size_alloc]; omega) ?_; intro v8 w8 ho8 hg8 hob8; have ho9 := hide ho8; have hg9 := hide hg8; obtain ⟨A8, c8, q8⟩ := own_form ho8; subst q8; clear ho8 hg8 hob8)
        have hF9 : Fr (ob (.slice QA Q.length qcap)) wr w8 := ((Fr.refl _ _).alloc _).grown hg9.out (fun j hj => .inl (Option.mem_toList.2 hj))
        go_roundg (P.length - (k + 1))
        case measure => omega
        case rel =>
          refine ⟨k + 1, Q ++ [(Value.slice DA D.length dcap, (s, u), D)], by go_num, by omega, ?_, ?_, by simp; omega, ext_fr hX.out hF9 (fun y hy => (hobQ y hy).1)⟩
          · have := ho9.out
            show World.ownsRow _ _ _ _ _ _ _
            rw [List.length_append, pt_append]
            simpa [pt, pt1] using this
          · show _ = _
            rw [hnx.out, List.filter_append, ← hQ.out]
            simp [h1]
      · go_wp2_with fail
        go_roundg (P.length - (k + 1))
        case measure => omega
        case rel => exact ⟨k + 1, Q, by go_num, by omega, hO.out, (by show _ = _; rw [hnx.out, List.filter_append, ← hQ.out]; simp [h1]), by omega, hX.out⟩
    · have hQf : Hid (Q = P.filter fun p => decide (p.2.1.1 < T)) := by show _ = _; rw [hQ.out, List.take_of_length_le (by omega)]
      go_wp2_with fail
      go_returns
      refine ⟨_, rfl, ?_, hX.out⟩
      rw [← hQf.out]
      refine ⟨Sl.own hO.out (by simp), fun p hp => ?_⟩
      rw [hQf.out] at hp
      exact (h'.out.ext hX.out).2 p (List.mem_filter.1 hp).1
theorem filter_ptsA {P Q : List Vp} {T U : Int} (h : ((pts P).filter fun p => decide (p.1.1 < T)) = (pts Q).filter fun p => decide (p.1.1 < U)) : pts (P.filter fun p => decide (p.2.1.1 < T)) = pts (Q.filter fun p => decide (p.2.1.1 < U)) := by
  have key : ∀ (P : List Vp) (T : Int), pts (P.filter fun p => decide (p.2.1.1 < T)) = (pts P).filter fun p => decide (p.1.1 < T) := fun P T => by
    rw [List.filter_map]
    rfl
  rw [key, key, h]
theorem cpT_len {l : List Ed} {n : Int} (h : cpE l n 0 = 0) {P : List Vp} (hP : pts P = cpL l n 0) : P.length ≤ 4096 := by
  have h1 := congrArg List.length hP
  unfold cpL cpT at h1
  rw [if_pos h, List.length_map, List.length_map, cwS_len] at h1
  have := (cpE_ok h).2
  omega
set_option maxHeartbeats 16000000 in
set_option maxRecDepth 100000 in
theorem countsSettles_walk (L M : List Ve) (n t : Int) (v u : Value) (w : World) (hL : Ew w [] v L) (hM : Ew w [] u M) : Calls Try.prog 5 #[v, u, .int .i64 n, .int .i64 t] w fun e w' => e = .returned (.bool true) ∧ Ext w w' := by
  have hl := hide cntLive_c
  have hA1 := hide (fun w' (hX : Ext w w') => edgeAhead_c L t v w' (hL.ext hX))
  have hA2 := hide (fun w' (hX : Ext w w') => edgeAhead_c M t u w' (hM.ext hX))
  have hO1 := hide (fun w' (hX : Ext w w') => copen_c L n t v w' (hL.ext hX))
  have hO2 := hide (fun w' (hX : Ext w w') => copen_c M n t u w' (hM.ext hX))
  have hp1 := hide (fun w' (hX : Ext w w') => cpParts_c L n 0 v w' (hL.ext hX))
  have hp2 := hide (fun w' (hX : Ext w w') => cpParts_c M n 0 u w' (hM.ext hX))
  obtain ⟨A, cap, rfl, hlc, hlm, -⟩ := ew_form hL
  obtain ⟨B, cap2, rfl, hmc, hmm, -⟩ := ew_form hM
  unfold maxLen at hlm hmm
  clear hL hM
  obtain ⟨E1, hE1⟩ : ∃ E, E = mpE (ahOp t) (eds L) := ⟨_, rfl⟩
  obtain ⟨E2, hE2⟩ : ∃ E, E = mpE (ahOp t) (eds M) := ⟨_, rfl⟩
  obtain ⟨G1, hG1⟩ : ∃ E, E = ssE (eds L) n t := ⟨_, rfl⟩
  obtain ⟨G2, hG2⟩ : ∃ E, E = ssE (eds M) n t := ⟨_, rfl⟩
  obtain ⟨V, hV⟩ : ∃ E, E = coV (eds L) n t := ⟨_, rfl⟩
  obtain ⟨V2, hV2⟩ : ∃ E, E = coV (eds M) n t := ⟨_, rfl⟩
  obtain ⟨K1, hK1⟩ : ∃ E, E = cpE (eds L) n 0 := ⟨_, rfl⟩
  obtain ⟨K2, hK2⟩ : ∃ E, E = cpE (eds M) n 0 := ⟨_, rfl⟩
  rw [← hE1] at hA1
  rw [← hE2] at hA2
  rw [← hG1, ← hV] at hO1
  rw [← hG2, ← hV2] at hO2
  rw [← hK1] at hp1
  rw [← hK2] at hp2
  by_cases h1 : E1 = 0
  case neg =>
    have hb : (E1 != 0) = true := by simpa using h1
    replace hE1 := hide hE1
    replace hE2 := hide hE2
    replace hG1 := hide hG1
    replace hG2 := hide hG2
    replace hV := hide hV
    replace hV2 := hide hV2
    replace hK1 := hide hK1
    replace hK2 := hide hK2
    go_enter Try.func5, Try.ntmps5
    go_wp2_with (first | (go_at_call 16; first | ((with_reducible refine (hA1.out _ (Ext.refl _)).mono ?_); rintro ee w1 ⟨v1, N1, rfl, hN1, ho1, hY⟩; have hX1 := hide hY; have hs1 := hide ho1.ew; have hN1' := hide hN1; obtain ⟨A1, c1, q1⟩ := own_form ho1.1; subst q1; clear ho1 hY hN1) | ((with_reducible refine (hA2.out _ hX1.out).mono ?_); rintro ee w2 ⟨v2, N2, rfl, hN2, ho2, hY⟩; have hX2 := hide (hX1.out.trans hY); have hs2 := hide ho2.ew; have hs12 := hide (hs1.out.ext hY); have hN2' := hide hN2; obtain ⟨A2, c2, q2⟩ := own_form ho2.1; subst q2; clear ho2 hY hN2)) | (go_at_call 8; (with_reducible refine seq_gw (hl.out _) ?_); intro g9))
    go_returns
    exact ⟨by first | rfl | simp, hX2.out.trans g9.grown⟩
  subst h1
  by_cases h2 : E2 = 0
  case neg =>
    have hb : (E2 != 0) = true := by simpa using h2
    replace hE1 := hide hE1
    replace hE2 := hide hE2
    replace hG1 := hide hG1
    replace hG2 := hide hG2
    replace hV := hide hV
    replace hV2 := hide hV2
    replace hK1 := hide hK1
    replace hK2 := hide hK2
    go_enter Try.func5, Try.ntmps5
    go_wp2_with (first | (go_at_call 16; first | ((with_reducible refine (hA1.out _ (Ext.refl _)).mono ?_); rintro ee w1 ⟨v1, N1, rfl, hN1, ho1, hY⟩; have hX1 := hide hY; have hs1 := hide ho1.ew; have hN1' := hide hN1; obtain ⟨A1, c1, q1⟩ := own_form ho1.1; subst q1; clear ho1 hY hN1) | ((with_reducible refine (hA2.out _ hX1.out).mono ?_); rintro ee w2 ⟨v2, N2, rfl, hN2, ho2, hY⟩; have hX2 := hide (hX1.out.trans hY); have hs2 := hide ho2.ew; have hs12 := hide (hs1.out.ext hY); have hN2' := hide hN2; obtain ⟨A2, c2, q2⟩ := own_form ho2.1; subst q2; clear ho2 hY hN2)) | (go_at_call 8; (with_reducible refine seq_gw (hl.out _) ?_); intro g9))
    go_returns
    exact ⟨by first | rfl | simp, hX2.out.trans g9.grown⟩
  subst h2
  cases hXX : decide (mpR (ahOp t) (eds L) = mpR (ahOp t) (eds M))
  · replace hE1 := hide hE1
    replace hE2 := hide hE2
    replace hG1 := hide hG1
    replace hG2 := hide hG2
    replace hV := hide hV
    replace hV2 := hide hV2
    replace hK1 := hide hK1
    replace hK2 := hide hK2
    go_enter Try.func5, Try.ntmps5
    go_wp2_with (first | (go_at_call 16; first | ((with_reducible refine (hA1.out _ (Ext.refl _)).mono ?_); rintro ee w1 ⟨v1, N1, rfl, hN1, ho1, hY⟩; have hX1 := hide hY; have hs1 := hide ho1.ew; have hN1' := hide hN1; obtain ⟨A1, c1, q1⟩ := own_form ho1.1; subst q1; clear ho1 hY hN1) | ((with_reducible refine (hA2.out _ hX1.out).mono ?_); rintro ee w2 ⟨v2, N2, rfl, hN2, ho2, hY⟩; have hX2 := hide (hX1.out.trans hY); have hs2 := hide ho2.ew; have hs12 := hide (hs1.out.ext hY); have hN2' := hide hN2; obtain ⟨A2, c2, q2⟩ := own_form ho2.1; subst q2; clear ho2 hY hN2)) | (go_at_call 17; (have hsm := refEdgeSame_c hs12.out hs2.out; rw [hN1'.out, hN2'.out, hXX] at hsm; (with_reducible refine seq_gw hsm ?_); intro g3; clear hsm; have hX3 := hide (hX2.out.trans g3.grown))) | (go_at_call 8; (with_reducible refine seq_gw (hl.out _) ?_); intro g9))
    go_returns
    exact ⟨by first | rfl | simp, hX3.out.trans g9.grown⟩
  by_cases h0 : t < 1125899906842624
  case neg =>
    have h0' : 1125899906842624 ≤ t := by omega
    replace hE1 := hide hE1
    replace hE2 := hide hE2
    replace hG1 := hide hG1
    replace hG2 := hide hG2
    replace hV := hide hV
    replace hV2 := hide hV2
    replace hK1 := hide hK1
    replace hK2 := hide hK2
    clear h0
    go_enter Try.func5, Try.ntmps5
    go_wp2_with (first | (go_at_call 16; first | ((with_reducible refine (hA1.out _ (Ext.refl _)).mono ?_); rintro ee w1 ⟨v1, N1, rfl, hN1, ho1, hY⟩; have hX1 := hide hY; have hs1 := hide ho1.ew; have hN1' := hide hN1; obtain ⟨A1, c1, q1⟩ := own_form ho1.1; subst q1; clear ho1 hY hN1) | ((with_reducible refine (hA2.out _ hX1.out).mono ?_); rintro ee w2 ⟨v2, N2, rfl, hN2, ho2, hY⟩; have hX2 := hide (hX1.out.trans hY); have hs2 := hide ho2.ew; have hs12 := hide (hs1.out.ext hY); have hN2' := hide hN2; obtain ⟨A2, c2, q2⟩ := own_form ho2.1; subst q2; clear ho2 hY hN2)) | (go_at_call 17; (have hsm := refEdgeSame_c hs12.out hs2.out; rw [hN1'.out, hN2'.out, hXX] at hsm; (with_reducible refine seq_gw hsm ?_); intro g3; clear hsm; have hX3 := hide (hX2.out.trans g3.grown))) | (go_at_call 8; (with_reducible refine seq_gw (hl.out _) ?_); intro g9))
    go_returns
    exact ⟨by first | rfl | simp, hX3.out.trans g9.grown⟩
  by_cases h3 : G1 = 0
  case neg =>
    have hb : (G1 != 0) = true := by simpa using h3
    replace hE1 := hide hE1
    replace hE2 := hide hE2
    replace hG1 := hide hG1
    replace hG2 := hide hG2
    replace hV := hide hV
    replace hV2 := hide hV2
    replace hK1 := hide hK1
    replace hK2 := hide hK2
    go_enter Try.func5, Try.ntmps5
    go_wp2_with (first | (go_at_call 16; first | ((with_reducible refine (hA1.out _ (Ext.refl _)).mono ?_); rintro ee w1 ⟨v1, N1, rfl, hN1, ho1, hY⟩; have hX1 := hide hY; have hs1 := hide ho1.ew; have hN1' := hide hN1; obtain ⟨A1, c1, q1⟩ := own_form ho1.1; subst q1; clear ho1 hY hN1) | ((with_reducible refine (hA2.out _ hX1.out).mono ?_); rintro ee w2 ⟨v2, N2, rfl, hN2, ho2, hY⟩; have hX2 := hide (hX1.out.trans hY); have hs2 := hide ho2.ew; have hs12 := hide (hs1.out.ext hY); have hN2' := hide hN2; obtain ⟨A2, c2, q2⟩ := own_form ho2.1; subst q2; clear ho2 hY hN2)) | (go_at_call 17; (have hsm := refEdgeSame_c hs12.out hs2.out; rw [hN1'.out, hN2'.out, hXX] at hsm; (with_reducible refine seq_gw hsm ?_); intro g3; clear hsm; have hX3 := hide (hX2.out.trans g3.grown))) | (go_at_call 11; first | ((with_reducible refine seq_gw (hO1.out _ hX3.out) ?_); intro g4; have hX4 := hide (hX3.out.trans g4.grown)) | ((with_reducible refine seq_gw (hO2.out _ hX4.out) ?_); intro g5; have hX5 := hide (hX4.out.trans g5.grown))) | (go_at_call 8; (with_reducible refine seq_gw (hl.out _) ?_); intro g9))
    go_returns
    exact ⟨by first | rfl | simp, hX5.out.trans g9.grown⟩
  subst h3
  by_cases h4 : G2 = 0
  case neg =>
    have hb : (G2 != 0) = true := by simpa using h4
    replace hE1 := hide hE1
    replace hE2 := hide hE2
    replace hG1 := hide hG1
    replace hG2 := hide hG2
    replace hV := hide hV
    replace hV2 := hide hV2
    replace hK1 := hide hK1
    replace hK2 := hide hK2
    go_enter Try.func5, Try.ntmps5
    go_wp2_with (first | (go_at_call 16; first | ((with_reducible refine (hA1.out _ (Ext.refl _)).mono ?_); rintro ee w1 ⟨v1, N1, rfl, hN1, ho1, hY⟩; have hX1 := hide hY; have hs1 := hide ho1.ew; have hN1' := hide hN1; obtain ⟨A1, c1, q1⟩ := own_form ho1.1; subst q1; clear ho1 hY hN1) | ((with_reducible refine (hA2.out _ hX1.out).mono ?_); rintro ee w2 ⟨v2, N2, rfl, hN2, ho2, hY⟩; have hX2 := hide (hX1.out.trans hY); have hs2 := hide ho2.ew; have hs12 := hide (hs1.out.ext hY); have hN2' := hide hN2; obtain ⟨A2, c2, q2⟩ := own_form ho2.1; subst q2; clear ho2 hY hN2)) | (go_at_call 17; (have hsm := refEdgeSame_c hs12.out hs2.out; rw [hN1'.out, hN2'.out, hXX] at hsm; (with_reducible refine seq_gw hsm ?_); intro g3; clear hsm; have hX3 := hide (hX2.out.trans g3.grown))) | (go_at_call 11; first | ((with_reducible refine seq_gw (hO1.out _ hX3.out) ?_); intro g4; have hX4 := hide (hX3.out.trans g4.grown)) | ((with_reducible refine seq_gw (hO2.out _ hX4.out) ?_); intro g5; have hX5 := hide (hX4.out.trans g5.grown))) | (go_at_call 8; (with_reducible refine seq_gw (hl.out _) ?_); intro g9))
    go_returns
    exact ⟨by first | rfl | simp, hX5.out.trans g9.grown⟩
  subst h4
  have hlow := ahead_low hE1.symm hE2.symm (of_decide_eq_true hXX) (Int.le_of_lt h0)
  have hVV : V = V2 := by rw [hV, hV2]; exact coV_low hG1.symm hG2.symm h0 hlow
  have hVt := coV_le hG1.symm h0
  rw [← hV] at hVt
  obtain ⟨hf1, hf2⟩ := cpT_low hG1.symm hG2.symm h0 hlow
  rw [← hV, ← hV2] at hf1
  rw [← hV] at hf2
  subst hVV
  have hvv : (V != V) = false := by simp
  have hvt : ¬ t < V := by omega
  by_cases h5 : K1 = 0
  case neg =>
    have hb : (K1 != 0) = true := by simpa using h5
    replace hE1 := hide hE1
    replace hE2 := hide hE2
    replace hG1 := hide hG1
    replace hG2 := hide hG2
    replace hV := hide hV
    replace hV2 := hide hV2
    replace hK1 := hide hK1
    replace hK2 := hide hK2
    clear hf1 hf2 hlow hVt
    go_enter Try.func5, Try.ntmps5
    go_wp2_with (first | (go_at_call 16; first | ((with_reducible refine (hA1.out _ (Ext.refl _)).mono ?_); rintro ee w1 ⟨v1, N1, rfl, hN1, ho1, hY⟩; have hX1 := hide hY; have hs1 := hide ho1.ew; have hN1' := hide hN1; obtain ⟨A1, c1, q1⟩ := own_form ho1.1; subst q1; clear ho1 hY hN1) | ((with_reducible refine (hA2.out _ hX1.out).mono ?_); rintro ee w2 ⟨v2, N2, rfl, hN2, ho2, hY⟩; have hX2 := hide (hX1.out.trans hY); have hs2 := hide ho2.ew; have hs12 := hide (hs1.out.ext hY); have hN2' := hide hN2; obtain ⟨A2, c2, q2⟩ := own_form ho2.1; subst q2; clear ho2 hY hN2)) | (go_at_call 17; (have hsm := refEdgeSame_c hs12.out hs2.out; rw [hN1'.out, hN2'.out, hXX] at hsm; (with_reducible refine seq_gw hsm ?_); intro g3; clear hsm; have hX3 := hide (hX2.out.trans g3.grown))) | (go_at_call 11; first | ((with_reducible refine seq_gw (hO1.out _ hX3.out) ?_); intro g4; have hX4 := hide (hX3.out.trans g4.grown)) | ((with_reducible refine seq_gw (hO2.out _ hX4.out) ?_); intro g5; have hX5 := hide (hX4.out.trans g5.grown))) | (go_at_call 13; first | ((with_reducible refine (hp1.out _ hX5.out).mono ?_); rintro ee w6 ⟨v6, P6, rfl, hP6, ho6, hY⟩; have hX6 := hide (hX5.out.trans hY); have hQ6 := hide hP6; have hO6 := hide ho6; obtain ⟨A6, c6, q6⟩ := ho6.form; subst q6; clear ho6 hY hP6) | ((with_reducible refine (hp2.out _ hX6.out).mono ?_); rintro ee w7 ⟨v7, P7, rfl, hP7, ho7, hY⟩; have hX7 := hide (hX6.out.trans hY); have hQ7 := hide hP7; have hO7 := hide ho7; have hO67 := hide (hO6.out.ext hY); obtain ⟨A7, c7, q7⟩ := ho7.form; subst q7; clear ho7 hY hP7)) | (go_at_call 8; (with_reducible refine seq_gw (hl.out _) ?_); intro g9))
    go_returns
    exact ⟨by first | rfl | simp, hX7.out.trans g9.grown⟩
  subst h5
  by_cases h6 : K2 = 0
  case neg =>
    have hb : (K2 != 0) = true := by simpa using h6
    replace hE1 := hide hE1
    replace hE2 := hide hE2
    replace hG1 := hide hG1
    replace hG2 := hide hG2
    replace hV := hide hV
    replace hV2 := hide hV2
    replace hK1 := hide hK1
    replace hK2 := hide hK2
    clear hf1 hf2 hlow hVt
    go_enter Try.func5, Try.ntmps5
    go_wp2_with (first | (go_at_call 16; first | ((with_reducible refine (hA1.out _ (Ext.refl _)).mono ?_); rintro ee w1 ⟨v1, N1, rfl, hN1, ho1, hY⟩; have hX1 := hide hY; have hs1 := hide ho1.ew; have hN1' := hide hN1; obtain ⟨A1, c1, q1⟩ := own_form ho1.1; subst q1; clear ho1 hY hN1) | ((with_reducible refine (hA2.out _ hX1.out).mono ?_); rintro ee w2 ⟨v2, N2, rfl, hN2, ho2, hY⟩; have hX2 := hide (hX1.out.trans hY); have hs2 := hide ho2.ew; have hs12 := hide (hs1.out.ext hY); have hN2' := hide hN2; obtain ⟨A2, c2, q2⟩ := own_form ho2.1; subst q2; clear ho2 hY hN2)) | (go_at_call 17; (have hsm := refEdgeSame_c hs12.out hs2.out; rw [hN1'.out, hN2'.out, hXX] at hsm; (with_reducible refine seq_gw hsm ?_); intro g3; clear hsm; have hX3 := hide (hX2.out.trans g3.grown))) | (go_at_call 11; first | ((with_reducible refine seq_gw (hO1.out _ hX3.out) ?_); intro g4; have hX4 := hide (hX3.out.trans g4.grown)) | ((with_reducible refine seq_gw (hO2.out _ hX4.out) ?_); intro g5; have hX5 := hide (hX4.out.trans g5.grown))) | (go_at_call 13; first | ((with_reducible refine (hp1.out _ hX5.out).mono ?_); rintro ee w6 ⟨v6, P6, rfl, hP6, ho6, hY⟩; have hX6 := hide (hX5.out.trans hY); have hQ6 := hide hP6; have hO6 := hide ho6; obtain ⟨A6, c6, q6⟩ := ho6.form; subst q6; clear ho6 hY hP6) | ((with_reducible refine (hp2.out _ hX6.out).mono ?_); rintro ee w7 ⟨v7, P7, rfl, hP7, ho7, hY⟩; have hX7 := hide (hX6.out.trans hY); have hQ7 := hide hP7; have hO7 := hide ho7; have hO67 := hide (hO6.out.ext hY); obtain ⟨A7, c7, q7⟩ := ho7.form; subst q7; clear ho7 hY hP7)) | (go_at_call 8; (with_reducible refine seq_gw (hl.out _) ?_); intro g9))
    go_returns
    exact ⟨by first | rfl | simp, hX7.out.trans g9.grown⟩
  subst h6
  have e1 : cpL (eds L) n 0 = cpT (eds L) n 0 := by unfold cpL; rw [← hK1, if_pos rfl]
  have e2 : cpL (eds M) n 0 = cpT (eds M) n 0 := by unfold cpL; rw [← hK2, if_pos rfl]
  have hEQ : Hid (∀ P Q : List Vp, pts P = cpL (eds L) n 0 → pts Q = cpL (eds M) n 0 → pts (P.filter fun p => decide (p.2.1.1 < V)) = pts (Q.filter fun p => decide (p.2.1.1 < V))) := fun P Q hP hQ => by
    refine filter_ptsA ?_
    rw [hP, hQ, e1, e2]
    exact hf1
  have hto : Hid (∀ P : List Vp, pts P = cpL (eds L) n 0 → ∀ p ∈ P.filter (fun p => decide (p.2.1.1 < V)), p.2.1.2 ≤ t) := fun P hP p hp => by
    obtain ⟨h1, h2⟩ := List.mem_filter.1 hp
    refine hf2 (p.2.1, cps p.2.2) (List.mem_filter.2 ⟨?_, h2⟩)
    rw [← e1, ← hP]
    exact List.mem_map.2 ⟨p, h1, rfl⟩
  have hn1 : Hid (∀ P : List Vp, pts P = cpL (eds L) n 0 → P.length ≤ 4096) := fun P hP => cpT_len hK1.symm hP
  have hn2 : Hid (∀ P : List Vp, pts P = cpL (eds M) n 0 → P.length ≤ 4096) := fun P hP => cpT_len hK2.symm hP
  replace hE1 := hide hE1
  replace hE2 := hide hE2
  replace hG1 := hide hG1
  replace hG2 := hide hG2
  replace hV := hide hV
  replace hV2 := hide hV2
  replace hK1 := hide hK1
  replace hK2 := hide hK2
  clear hf1 hf2 hlow hVt e1 e2
  go_enter Try.func5, Try.ntmps5
  go_wp2_with (first | (go_at_call 16; first | ((with_reducible refine (hA1.out _ (Ext.refl _)).mono ?_); rintro ee w1 ⟨v1, N1, rfl, hN1, ho1, hY⟩; have hX1 := hide hY; have hs1 := hide ho1.ew; have hN1' := hide hN1; obtain ⟨A1, c1, q1⟩ := own_form ho1.1; subst q1; clear ho1 hY hN1) | ((with_reducible refine (hA2.out _ hX1.out).mono ?_); rintro ee w2 ⟨v2, N2, rfl, hN2, ho2, hY⟩; have hX2 := hide (hX1.out.trans hY); have hs2 := hide ho2.ew; have hs12 := hide (hs1.out.ext hY); have hN2' := hide hN2; obtain ⟨A2, c2, q2⟩ := own_form ho2.1; subst q2; clear ho2 hY hN2)) | (go_at_call 17; (have hsm := refEdgeSame_c hs12.out hs2.out; rw [hN1'.out, hN2'.out, hXX] at hsm; (with_reducible refine seq_gw hsm ?_); intro g3; clear hsm; have hX3 := hide (hX2.out.trans g3.grown))) | (go_at_call 11; first | ((with_reducible refine seq_gw (hO1.out _ hX3.out) ?_); intro g4; have hX4 := hide (hX3.out.trans g4.grown)) | ((with_reducible refine seq_gw (hO2.out _ hX4.out) ?_); intro g5; have hX5 := hide (hX4.out.trans g5.grown))) | (go_at_call 13; first | ((with_reducible refine (hp1.out _ hX5.out).mono ?_); rintro ee w6 ⟨v6, P6, rfl, hP6, ho6, hY⟩; have hX6 := hide (hX5.out.trans hY); have hQ6 := hide hP6; have hO6 := hide ho6; obtain ⟨A6, c6, q6⟩ := ho6.form; subst q6; clear ho6 hY hP6) | ((with_reducible refine (hp2.out _ hX6.out).mono ?_); rintro ee w7 ⟨v7, P7, rfl, hP7, ho7, hY⟩; have hX7 := hide (hX6.out.trans hY); have hQ7 := hide hP7; have hO7 := hide ho7; have hO67 := hide (hO6.out.ext hY); obtain ⟨A7, c7, q7⟩ := ho7.form; subst q7; clear ho7 hY hP7)) | (go_at_call 18; (with_reducible refine (cahead_c P6 V _ _ hO67.out.pw (hn1.out _ hQ6.out)).mono ?_); rintro ee w8 ⟨v8, rfl, hp8, hY⟩; have hX8 := hide (hX7.out.trans hY); have hp8' := hide hp8; have hO78 := hide (hO7.out.ext hY); obtain ⟨A8, c8, q8, -⟩ := pw_form hp8; subst q8; clear hp8 hY))
  obtain ⟨Q, hQ⟩ : ∃ Q, Q = P6.filter fun p => decide (p.2.1.1 < V) := ⟨_, rfl⟩
  have hto2 := hto.out P6 hQ6.out
  have hQl : Q.length ≤ 4096 := by rw [hQ]; exact Nat.le_trans (List.length_filter_le _ _) (hn1.out P6 hQ6.out)
  rw [← hQ] at hto2 hp8' ⊢
  replace hto2 := hide hto2
  replace hQ := hide hQ
  go_loopg [22] Q.length (fun gh i wr => ∃ (k : Nat), i = .int .i64 k ∧ k + gh = Q.length ∧ Hid (Ext w8 wr))
  case atStart => exact ⟨0, by go_num, by omega, Ext.refl _⟩
  case round =>
    obtain ⟨k, rfl, hk, hX⟩ := hrel
    by_cases hlt : k < Q.length
    · obtain ⟨⟨x, ⟨s, z⟩, D⟩, hd⟩ : ∃ p, Q[k]? = some p := ⟨_, List.getElem?_eq_getElem hlt⟩
      obtain ⟨A', cap', e', -, -, hat⟩ := pw_form (hp8'.out.ext hX.out)
      simp only [Value.slice.injEq] at e'
      obtain ⟨rfl, -, rfl⟩ := e'
      obtain ⟨b, o, rfl, -, hbl, d0, d1, d2⟩ := hat k _ hd
      simp only at d0 d1 d2
      have hzt : ¬ t < z := by have := hto2.out _ (List.mem_of_getElem? hd); simp only at this; omega
      haveI : In b wr := ⟨hbl⟩
      clear hat hd
      go_wp2_with fail
      go_roundg (Q.length - (k + 1))
      case measure => omega
      case rel => exact ⟨k + 1, by go_num, by omega, hX⟩
    · have hp9 := hide (show Pw w8 [] (.slice A8 Q.length c8) (P6.filter fun p => decide (p.2.1.1 < V)) by rw [← hQ.out]; exact hp8'.out)
      replace hp8' := hp9
      clear hp9
      go_wp2_with (first | (go_at_call 8; (with_reducible refine seq_gw (hl.out _) ?_); intro g9) | (go_at_call 18; (with_reducible refine (cahead_c P7 V _ _ (hO78.out.ext (hX.out.trans g9.grown)).pw (hn2.out _ hQ7.out)).mono ?_); rintro ee w10 ⟨v10, rfl, hp10, hY⟩; have hX10 := hide (hX8.out.trans (hX.out.trans (g9.grown.trans hY))); have hp10' := hide hp10; have hp810 := hide (hp8'.out.ext (hX.out.trans (g9.grown.trans hY))); obtain ⟨A10, c10, q10, -⟩ := pw_form hp10; subst q10; clear hp10 hY) | (go_at_call 15; (with_reducible refine seq_gw (refSameParts_c _ _ (hEQ.out P6 P7 hQ6.out hQ7.out) _ _ _ hp810.out hp10'.out) ?_); intro g11))
      go_returns
      exact ⟨by first | rfl | simp, hX10.out.trans g11.grown⟩
set_option maxHeartbeats 16000000 in
set_option maxRecDepth 100000 in
theorem countsForgets_walk (L : List Ve) (n t : Int) (v : Value) (w : World) (hL : Ew w [] v L) : Calls Try.prog 6 #[v, .int .i64 n, .int .i64 t] w fun e w' => e = .returned (.bool true) ∧ Ext w w' := by
  have hl := hide cntLive_c
  have hO1 := hide (fun w' (hX : Ext w w') => copen_c L n t v w' (hL.ext hX))
  obtain ⟨V, hV⟩ : ∃ V, V = coV (eds L) n t := ⟨_, rfl⟩
  obtain ⟨E, hE⟩ : ∃ E, E = ssE (eds L) n t := ⟨_, rfl⟩
  rw [← hV, ← hE] at hO1
  have hre := hide (fun w' (hX : Ext w w') => edgeRest_c L V v w' (hL.ext hX))
  have hp1 := hide (fun w' (hX : Ext w w') => cpParts_c L n V v w' (hL.ext hX))
  obtain ⟨A, cap, rfl, hlc, hlm, -⟩ := ew_form hL
  unfold maxLen at hlm
  clear hL
  by_cases h1 : E = 0
  case neg =>
    have hb : (E != 0) = true := by simpa using h1
    clear hp1
    replace hV := hide hV
    replace hE := hide hE
    go_enter Try.func6, Try.ntmps6
    go_wp2_with (first | (go_at_call 11; first | ((with_reducible refine seq_gw (hO1.out _ (Ext.refl _)) ?_); intro g1; have hX1 := hide g1.grown)) | (go_at_call 8; (with_reducible refine seq_gw (hl.out _) ?_); intro g9))
    go_returns
    exact ⟨by first | rfl | simp, hX1.out.trans g9.grown⟩
  subst h1
  by_cases h2 : V = 1125899906842624
  · have hb : (V == 1125899906842624) = true := by simpa using h2
    clear h2
    replace hV := hide hV
    replace hE := hide hE
    go_enter Try.func6, Try.ntmps6
    go_wp2_with (first | (go_at_call 11; first | ((with_reducible refine seq_gw (hO1.out _ (Ext.refl _)) ?_); intro g1; have hX1 := hide g1.grown)) | (go_at_call 8; (with_reducible refine seq_gw (hl.out _) ?_); intro g9))
    go_returns
    exact ⟨by first | rfl | simp, hX1.out.trans g9.grown⟩
  have hb2 : (V == 1125899906842624) = false := by simpa using h2
  obtain ⟨F, hF⟩ : ∃ F, F = mpE (reOp V) (eds L) := ⟨_, rfl⟩
  rw [← hF] at hre
  by_cases h3 : F = 0
  case neg =>
    have hb : (F != 0) = true := by simpa using h3
    replace hV := hide hV
    replace hE := hide hE
    replace hF := hide hF
    go_enter Try.func6, Try.ntmps6
    go_wp2_with (first | (go_at_call 11; first | ((with_reducible refine seq_gw (hO1.out _ (Ext.refl _)) ?_); intro g1; have hX1 := hide g1.grown)) | (go_at_call 19; refine (hre.out _ hX1.out).mono ?_; rintro ee w2 ⟨v2, N2, rfl, hN2, ho2, hY⟩; have hX2 := hide (hX1.out.trans hY); have hs2 := hide ho2.ew; have hN2' := hide hN2; obtain ⟨A2, c2, q2⟩ := own_form ho2.1; subst q2; clear ho2 hY hN2) | (go_at_call 8; (with_reducible refine seq_gw (hl.out _) ?_); intro g9))
    go_returns
    exact ⟨by first | rfl | simp, hX2.out.trans g9.grown⟩
  subst h3
  obtain ⟨q1, q2, t1, t2⟩ := ssE_ok hE.symm
  have htF : t < 1125899906842624 := by
    rcases Int.lt_or_le t 1125899906842624 with h | h
    · exact h
    · have : t = 1125899906842624 := by omega
      exact absurd (show V = 1125899906842624 by rw [hV]; unfold coV; rw [← hE, if_pos rfl, if_pos this]) h2
  obtain ⟨l1, l2⟩ := coV_le hE.symm htF
  rw [← hV] at l1 l2
  have hr1 := rest_coV hE.symm hV (by omega) htF hF.symm
  have hr2 := rest_ssE l1 (by omega) hF.symm hE.symm
  have hsV : ssE (eds L) n V = 0 := by
    unfold ssE
    rw [if_pos q1, if_pos (show csE _ = 0 by unfold csE; rw [if_pos q2.1, if_pos q2.2]), if_pos ⟨l1, by omega⟩]
  obtain ⟨hk1, hk2⟩ := rest_cp l1 (by omega) hF.symm hsV
  obtain ⟨GE, hGE⟩ : ∃ GE, GE = cpE (eds L) n V := ⟨_, rfl⟩
  obtain ⟨GL, hGL⟩ : ∃ GL, GL = cpL (eds L) n V := ⟨_, rfl⟩
  rw [← hGE, ← hGL] at hp1
  rw [← hGE] at hk1
  rw [← hGL] at hk2
  have hvv : (V == V) = true := by simp
  have hgg : (GE == GE) = true := by simp
  replace hr1 := hide hr1
  replace hr2 := hide hr2
  replace hk1 := hide hk1
  replace hk2 := hide hk2
  replace hGE := hide hGE
  replace hGL := hide hGL
  clear q1 q2 t1 t2 hsV l1 l2 htF
  replace hV := hide hV
  replace hE := hide hE
  replace hF := hide hF
  go_enter Try.func6, Try.ntmps6
  go_wp2_with (first | (go_at_call 19; refine (hre.out _ hX1.out).mono ?_; rintro ee w2 ⟨v2, N2, rfl, hN2, ho2, hY⟩; have hX2 := hide (hX1.out.trans hY); have hs2 := hide ho2.ew; have hN2' := hide hN2; obtain ⟨A2, c2, q2⟩ := own_form ho2.1; subst q2; have hO2 := copen_c N2 n t _ w2 hs2.out; rw [hN2'.out, hr1.out, hr2.out] at hO2; replace hO2 := hide hO2; clear ho2 hY hN2) | (go_at_call 11; first | ((with_reducible refine seq_gw (hO1.out _ (Ext.refl _)) ?_); intro g1; have hX1 := hide g1.grown) | ((with_reducible refine seq_gw hO2.out ?_); intro g3; have hX3 := hide (hX2.out.trans g3.grown))) | (go_at_call 13; first | ((with_reducible refine (hp1.out _ hX3.out).mono ?_); rintro ee w4 ⟨v4, P4, rfl, hP4, ho4, hY⟩; have hX4 := hide (hX3.out.trans hY); have hQ4 := hide hP4; have hO4 := hide ho4; have hp2 := cpParts_c N2 n V _ w4 (hs2.out.ext (g3.grown.trans hY)); rw [hN2'.out, ← hk1.out, ← hk2.out] at hp2; replace hp2 := hide hp2; obtain ⟨A4, c4, q4⟩ := ho4.form; subst q4; clear ho4 hY hP4) | ((with_reducible refine hp2.out.mono ?_); rintro ee w5 ⟨v5, P5, rfl, hP5, ho5, hY⟩; have hX5 := hide (hX4.out.trans hY); have hQ5 := hide hP5; have hO5 := hide ho5; have hO45 := hide (hO4.out.ext hY); obtain ⟨A5, c5, q5⟩ := ho5.form; subst q5; clear ho5 hY hP5)) | (go_at_call 8; (with_reducible refine seq_gw (hl.out _) ?_); intro g9) | (go_at_call 15; (with_reducible refine seq_gw (refSameParts_c P4 P5 (hQ4.out.trans hQ5.out.symm) _ _ _ (hO45.out.ext g9.grown).pw (hO5.out.ext g9.grown).pw) ?_); intro g10))
  go_returns
  exact ⟨by first | rfl | simp, (hX5.out.trans g9.grown).trans g10.grown⟩
end Go.Proofs.Ytljkneajdndgjaa
