/-
  A helper of ours: no claim of its own. Layer 28 (hop): which windows are closed, as the statement asks; the walk of HopSettles.
-/
import Derived.Test.YtjdbjnpomndfjaaHopY
import Derived.Test.YtjdbjnpomndfjaaEdgRo
import Derived.Test.YtjdbjnpomndfjaaSnaS
import Derived.Test.YtjdbjnpomndfjaaEdgD
set_option linter.unusedVariables false
set_option linter.unusedSimpArgs false
namespace Go.Proofs.Ytjdbjnpomndfjaa
open Go.RowKit
attribute [local go_sem] GW.cell GW.frozen In.eq_true In.le_true In.ne In.ne' In.ne_add In.ne_add' In.lt_add Upto.le_true Upto.le_add Upto.lt_add
set_option maxHeartbeats 8000000 in
set_option maxRecDepth 100000 in
theorem hclosed_c (P : List Vp) (T : Int) (v : Value) (w : World) (h : Pw w [] v P) (hl : P.length ≤ 4096) : Calls Try.prog 33 #[v, .int .i64 T] w fun e w' => ∃ v', e = .returned v' ∧ Pw w' [] v' (P.filter fun p => decide (p.2.1.2 ≤ T)) ∧ Ext w w' := by
  have h' := hide h
  obtain ⟨A, cap, rfl, -, -, -⟩ := pw_form h
  clear h
  have hz0 := hide (World.ownsRow_lit (base := w.heap.size) (e := 38) (size := 3) w #[] 0 (Nat.le_refl _) (by decide) rfl)
  go_enter Try.func33, Try.ntmps33
  go_wp2_with fail
  go_loopg [5, 6] P.length (fun gh u i wr => ∃ (k : Nat) (Q : List Vp), i = .int .i64 k ∧ k + gh = P.length ∧ Hid (wr.ownsRow w.heap.size 38 3 u Q.length (pt Q)) ∧ Hid (Q = (P.take k).filter fun p => decide (p.2.1.2 ≤ T)) ∧ Q.length ≤ k ∧ Hid (Ext w wr))
  case atStart => exact ⟨0, [], by go_num, by omega, hz0, rfl, by simp, (Ext.refl w).alloc _⟩
  case round =>
    clear hz0
    obtain ⟨k, Q, rfl, hk, hO, hQ, hQl, hX⟩ := hrel
    obtain ⟨QA, qcap, rfl⟩ := own_form hO.out
    by_cases hlt : k < P.length
    · obtain ⟨⟨x, ⟨s, u⟩, D⟩, hd⟩ : ∃ p, P[k]? = some p := ⟨_, List.getElem?_eq_getElem hlt⟩
      have hnx := hide (show P.take (k + 1) = P.take k ++ [(x, (s, u), D)] by rw [List.take_add_one, hd]; rfl)
      obtain ⟨A', cap', e', -, -, hat⟩ := pw_form (h'.out.ext hX.out)
      simp only [Value.slice.injEq] at e'
      obtain ⟨rfl, -, rfl⟩ := e'
      obtain ⟨b, o, rfl, -, hbl, d0, d1, d2⟩ := hat k _ hd
      have hD := (h'.out.ext hX.out).2 _ (List.mem_of_getElem? hd)
      simp only at d0 d1 d2 hD
      obtain ⟨DA, dcap, rfl⟩ := cw_val hD
      haveI : In b wr := ⟨hbl⟩
      have hobQ := ob_ge hO.out
      have hzw := hX.out.size
      clear hat hd hD
      by_cases h1 : u ≤ T
      · have hO1 := hide hO.out
        go_wp2_with (at_builtin; refine wpl_app tPa rfl (.tmp 22) (.tmp 27) rfl rfl (own_ext hO1.out ((Ext.refl wr).alloc _)) rfl (src_sl Try.underlying30 (sl_lit wr 38 3 [.int .i64 s, .int .i64 u, .slice DA D.length dcap] rfl) (by intro u hu; simp at hu; rcases hu with rfl | rfl | rfl <;> rfl) (by omega)) (by unfold maxLen; omega) (by omega) (by simp only [World.size_alloc]; omega) ?_; intro v8 w8 ho8 hg8 hob8; have ho9 := hide ho8; have hg9 := hide hg8; obtain ⟨A8, c8, q8⟩ := own_form ho8; subst q8; clear ho8 hg8 hob8)
        have hF9 : Fr (ob (.slice QA Q.length qcap)) wr w8 := ((Fr.refl _ _).alloc _).grown hg9.out (fun j hj => .inl (Option.mem_toList.2 hj))
        go_roundg (P.length - (k + 1))
        case measure => omega
        case rel =>
          refine ⟨k + 1, Q ++ [(Value.slice DA D.length dcap, (s, u), D)], by go_num, by omega, ?_, ?_, by simp; omega, ext_fr hX.out hF9 (fun y hy => (hobQ y hy).1)⟩
          · have := ho9.out
            show World.ownsRow _ _ _ _ _ _ _
            rw [List.length_append, pt_append]
            simpa [pt, pt1] using this
          · show _ = _
            rw [hnx.out, List.filter_append, ← hQ.out]
            simp [h1]
      · go_wp2_with fail
        go_roundg (P.length - (k + 1))
        case measure => omega
        case rel => exact ⟨k + 1, Q, by go_num, by omega, hO.out, (by show _ = _; rw [hnx.out, List.filter_append, ← hQ.out]; simp [h1]), by omega, hX.out⟩
    · have hQf : Hid (Q = P.filter fun p => decide (p.2.1.2 ≤ T)) := by show _ = _; rw [hQ.out, List.take_of_length_le (by omega)]
      go_wp2_with fail
      go_returns
      refine ⟨_, rfl, ?_, hX.out⟩
      rw [← hQf.out]
      refine ⟨Sl.own hO.out (by simp), fun p hp => ?_⟩
      rw [hQf.out] at hp
      exact (h'.out.ext hX.out).2 p (List.mem_filter.1 hp).1
theorem ahE_may {l : List Ed} {T : Int} (h : mpE (ahOp T) l = 0) : mayE l = true := (mp_zero h).1
theorem hpE_ok {l : List Ed} {s hp f r : Int} (h : hpE l s hp f r = 0) : (hlen s = true ∧ hlen hp = true ∧ mayE l = true) ∧ (htick f = true ∧ htick r = true) ∧ (hkeys s hp f r (grp l)).length ≤ 1024 := by
  unfold hpE at h
  split at h
  case isFalse => exact absurd h (by decide)
  rename_i h1
  split at h
  case isFalse => exact absurd h (by decide)
  split at h
  case isFalse => exact absurd h (by decide)
  rename_i h3
  refine ⟨h1, h3, ?_⟩
  unfold hcE at h
  split at h
  · exact absurd h (by decide)
  · omega
theorem filter_pts {P Q : List Vp} {T : Int} (h : ((pts P).filter fun p => decide (p.1.2 ≤ T)) = (pts Q).filter fun p => decide (p.1.2 ≤ T)) : pts (P.filter fun p => decide (p.2.1.2 ≤ T)) = pts (Q.filter fun p => decide (p.2.1.2 ≤ T)) := by
  have key : ∀ P : List Vp, pts (P.filter fun p => decide (p.2.1.2 ≤ T)) = (pts P).filter fun p => decide (p.1.2 ≤ T) := fun P => by
    rw [List.filter_map]
    rfl
  rw [key, key, h]
set_option maxHeartbeats 16000000 in
set_option maxRecDepth 100000 in
theorem hopSettles_walk (L M : List Ve) (s hp t : Int) (v u : Value) (w : World) (hL : Ew w [] v L) (hM : Ew w [] u M) : Calls Try.prog 9 #[v, u, .int .i64 s, .int .i64 hp, .int .i64 t] w fun e w' => e = .returned (.bool true) ∧ Ext w w' := by
  have hl := hide hopLive_c
  have hA1 := hide (fun w' (hX : Ext w w') => edgeAhead_c L t v w' (hL.ext hX))
  have hA2 := hide (fun w' (hX : Ext w w') => edgeAhead_c M t u w' (hM.ext hX))
  have hp1 := hide (fun w' (hX : Ext w w') => hpParts_c L s hp 0 t v w' (hL.ext hX))
  have hp2 := hide (fun w' (hX : Ext w w') => hpParts_c M s hp 0 t u w' (hM.ext hX))
  obtain ⟨A, cap, rfl, hlc, hlm, -⟩ := ew_form hL
  obtain ⟨B, cap2, rfl, hmc, hmm, -⟩ := ew_form hM
  unfold maxLen at hlm hmm
  clear hL hM
  obtain ⟨E1, hE1⟩ : ∃ E, E = mpE (ahOp t) (eds L) := ⟨_, rfl⟩
  obtain ⟨E2, hE2⟩ : ∃ E, E = mpE (ahOp t) (eds M) := ⟨_, rfl⟩
  rw [← hE1] at hA1
  rw [← hE2] at hA2
  by_cases h1 : E1 = 0
  case neg =>
    have hb : (E1 != 0) = true := by simpa using h1
    replace hE1 := hide hE1
    replace hE2 := hide hE2
    go_enter Try.func9, Try.ntmps9
    go_wp2_with (first | (go_at_call 30; first | ((with_reducible refine (hA1.out _ (Ext.refl _)).mono ?_); rintro ee w1 ⟨v1, N1, rfl, hN1, ho1, hY⟩; have hX1 := hide hY; have hs1 := hide ho1.ew; have hN1' := hide hN1; obtain ⟨A1, c1, q1⟩ := own_form ho1.1; subst q1; clear ho1 hY hN1) | ((with_reducible refine (hA2.out _ hX1.out).mono ?_); rintro ee w2 ⟨v2, N2, rfl, hN2, ho2, hY⟩; have hX2 := hide (hX1.out.trans hY); have hs2 := hide ho2.ew; have hs12 := hide (hs1.out.ext hY); have hN2' := hide hN2; obtain ⟨A2, c2, q2⟩ := own_form ho2.1; subst q2; clear ho2 hY hN2)) | (go_at_call 26; (with_reducible refine seq_gw (hl.out _) ?_); intro g9))
    go_returns
    exact ⟨by first | rfl | simp, hX2.out.trans g9.grown⟩
  subst h1
  by_cases h2 : E2 = 0
  case neg =>
    have hb : (E2 != 0) = true := by simpa using h2
    replace hE1 := hide hE1
    replace hE2 := hide hE2
    go_enter Try.func9, Try.ntmps9
    go_wp2_with (first | (go_at_call 30; first | ((with_reducible refine (hA1.out _ (Ext.refl _)).mono ?_); rintro ee w1 ⟨v1, N1, rfl, hN1, ho1, hY⟩; have hX1 := hide hY; have hs1 := hide ho1.ew; have hN1' := hide hN1; obtain ⟨A1, c1, q1⟩ := own_form ho1.1; subst q1; clear ho1 hY hN1) | ((with_reducible refine (hA2.out _ hX1.out).mono ?_); rintro ee w2 ⟨v2, N2, rfl, hN2, ho2, hY⟩; have hX2 := hide (hX1.out.trans hY); have hs2 := hide ho2.ew; have hs12 := hide (hs1.out.ext hY); have hN2' := hide hN2; obtain ⟨A2, c2, q2⟩ := own_form ho2.1; subst q2; clear ho2 hY hN2)) | (go_at_call 26; (with_reducible refine seq_gw (hl.out _) ?_); intro g9))
    go_returns
    exact ⟨by first | rfl | simp, hX2.out.trans g9.grown⟩
  subst h2
  cases hXX : decide (mpR (ahOp t) (eds L) = mpR (ahOp t) (eds M))
  · replace hE1 := hide hE1
    replace hE2 := hide hE2
    go_enter Try.func9, Try.ntmps9
    go_wp2_with (first | (go_at_call 30; first | ((with_reducible refine (hA1.out _ (Ext.refl _)).mono ?_); rintro ee w1 ⟨v1, N1, rfl, hN1, ho1, hY⟩; have hX1 := hide hY; have hs1 := hide ho1.ew; have hN1' := hide hN1; obtain ⟨A1, c1, q1⟩ := own_form ho1.1; subst q1; clear ho1 hY hN1) | ((with_reducible refine (hA2.out _ hX1.out).mono ?_); rintro ee w2 ⟨v2, N2, rfl, hN2, ho2, hY⟩; have hX2 := hide (hX1.out.trans hY); have hs2 := hide ho2.ew; have hs12 := hide (hs1.out.ext hY); have hN2' := hide hN2; obtain ⟨A2, c2, q2⟩ := own_form ho2.1; subst q2; clear ho2 hY hN2)) | (go_at_call 31; go_loud (have hsm := refEdgeSame_c hs12.out hs2.out; rw [hN1'.out, hN2'.out, hXX] at hsm; (with_reducible refine seq_gw hsm ?_); intro g3; clear hsm; have hX3 := hide (hX2.out.trans g3.grown))) | (go_at_call 26; (with_reducible refine seq_gw (hl.out _) ?_); intro g9))
    go_returns
    exact ⟨by first | rfl | simp, hX3.out.trans g9.grown⟩
  have hm1 := ahE_may hE1.symm
  have hm2 := ahE_may hE2.symm
  have hlow := fun hT => ahead_low hE1.symm hE2.symm (of_decide_eq_true hXX) hT
  obtain ⟨G1, hG1⟩ : ∃ G, G = hpE (eds L) s hp 0 t := ⟨_, rfl⟩
  obtain ⟨G2, hG2⟩ : ∃ G, G = hpE (eds M) s hp 0 t := ⟨_, rfl⟩
  rw [← hG1] at hp1
  rw [← hG2] at hp2
  by_cases h3 : G1 = 0
  case neg =>
    have hb : (G1 != 0) = true := by simpa using h3
    replace hE1 := hide hE1
    replace hE2 := hide hE2
    replace hG1 := hide hG1
    replace hG2 := hide hG2
    clear hm1 hm2 hlow
    go_enter Try.func9, Try.ntmps9
    go_wp2_with (first | (go_at_call 30; first | ((with_reducible refine (hA1.out _ (Ext.refl _)).mono ?_); rintro ee w1 ⟨v1, N1, rfl, hN1, ho1, hY⟩; have hX1 := hide hY; have hs1 := hide ho1.ew; have hN1' := hide hN1; obtain ⟨A1, c1, q1⟩ := own_form ho1.1; subst q1; clear ho1 hY hN1) | ((with_reducible refine (hA2.out _ hX1.out).mono ?_); rintro ee w2 ⟨v2, N2, rfl, hN2, ho2, hY⟩; have hX2 := hide (hX1.out.trans hY); have hs2 := hide ho2.ew; have hs12 := hide (hs1.out.ext hY); have hN2' := hide hN2; obtain ⟨A2, c2, q2⟩ := own_form ho2.1; subst q2; clear ho2 hY hN2)) | (go_at_call 31; go_loud (have hsm := refEdgeSame_c hs12.out hs2.out; rw [hN1'.out, hN2'.out, hXX] at hsm; (with_reducible refine seq_gw hsm ?_); intro g3; clear hsm; have hX3 := hide (hX2.out.trans g3.grown))) | (go_at_call 32; first | ((with_reducible refine (hp1.out _ hX3.out).mono ?_); rintro ee w4 ⟨v4, P4, rfl, hP4, ho4, hY⟩; have hX4 := hide (hX3.out.trans hY); have hQ4 := hide hP4; have hO4 := hide ho4; obtain ⟨A4, c4, q4⟩ := ho4.form; subst q4; clear ho4 hY hP4) | ((with_reducible refine (hp2.out _ hX4.out).mono ?_); rintro ee w5 ⟨v5, P5, rfl, hP5, ho5, hY⟩; have hX5 := hide (hX4.out.trans hY); have hQ5 := hide hP5; have hO5 := hide ho5; have hO45 := hide (hO4.out.ext hY); obtain ⟨A5, c5, q5⟩ := ho5.form; subst q5; clear ho5 hY hP5)) | (go_at_call 26; (with_reducible refine seq_gw (hl.out _) ?_); intro g9))
    go_returns
    exact ⟨by first | rfl | simp, hX5.out.trans g9.grown⟩
  subst h3
  by_cases h4 : G2 = 0
  case neg =>
    have hb : (G2 != 0) = true := by simpa using h4
    replace hE1 := hide hE1
    replace hE2 := hide hE2
    replace hG1 := hide hG1
    replace hG2 := hide hG2
    clear hm1 hm2 hlow
    go_enter Try.func9, Try.ntmps9
    go_wp2_with (first | (go_at_call 30; first | ((with_reducible refine (hA1.out _ (Ext.refl _)).mono ?_); rintro ee w1 ⟨v1, N1, rfl, hN1, ho1, hY⟩; have hX1 := hide hY; have hs1 := hide ho1.ew; have hN1' := hide hN1; obtain ⟨A1, c1, q1⟩ := own_form ho1.1; subst q1; clear ho1 hY hN1) | ((with_reducible refine (hA2.out _ hX1.out).mono ?_); rintro ee w2 ⟨v2, N2, rfl, hN2, ho2, hY⟩; have hX2 := hide (hX1.out.trans hY); have hs2 := hide ho2.ew; have hs12 := hide (hs1.out.ext hY); have hN2' := hide hN2; obtain ⟨A2, c2, q2⟩ := own_form ho2.1; subst q2; clear ho2 hY hN2)) | (go_at_call 31; go_loud (have hsm := refEdgeSame_c hs12.out hs2.out; rw [hN1'.out, hN2'.out, hXX] at hsm; (with_reducible refine seq_gw hsm ?_); intro g3; clear hsm; have hX3 := hide (hX2.out.trans g3.grown))) | (go_at_call 32; first | ((with_reducible refine (hp1.out _ hX3.out).mono ?_); rintro ee w4 ⟨v4, P4, rfl, hP4, ho4, hY⟩; have hX4 := hide (hX3.out.trans hY); have hQ4 := hide hP4; have hO4 := hide ho4; obtain ⟨A4, c4, q4⟩ := ho4.form; subst q4; clear ho4 hY hP4) | ((with_reducible refine (hp2.out _ hX4.out).mono ?_); rintro ee w5 ⟨v5, P5, rfl, hP5, ho5, hY⟩; have hX5 := hide (hX4.out.trans hY); have hQ5 := hide hP5; have hO5 := hide ho5; have hO45 := hide (hO4.out.ext hY); obtain ⟨A5, c5, q5⟩ := ho5.form; subst q5; clear ho5 hY hP5)) | (go_at_call 26; (with_reducible refine seq_gw (hl.out _) ?_); intro g9))
    go_returns
    exact ⟨by first | rfl | simp, hX5.out.trans g9.grown⟩
  subst h4
  obtain ⟨⟨k1, k2, -⟩, ⟨-, k4⟩, k5⟩ := hpE_ok hG1.symm
  obtain ⟨-, -, k6⟩ := hpE_ok hG2.symm
  have e1 : hpL (eds L) s hp 0 t = hpT s hp 0 t (eds L) := by unfold hpL; rw [← hG1, if_pos rfl]
  have e2 : hpL (eds M) s hp 0 t = hpT s hp 0 t (eds M) := by unfold hpL; rw [← hG2, if_pos rfl]
  rw [e1] at hp1
  rw [e2] at hp2
  have hEQ : Hid (∀ P Q : List Vp, pts P = hpT s hp 0 t (eds L) → pts Q = hpT s hp 0 t (eds M) → pts (P.filter fun p => decide (p.2.1.2 ≤ t)) = pts (Q.filter fun p => decide (p.2.1.2 ≤ t))) := fun P Q hP hQ => by
    refine filter_pts ?_
    rw [hP, hQ]
    exact hpT_low (hlen_iff.1 k1).1 (hlen_iff.1 k2).1 (htick_iff.1 k4).2 hm1 hm2 (hlow (htick_iff.1 k4).2)
  have hn1 : Hid (∀ P : List Vp, pts P = hpT s hp 0 t (eds L) → P.length ≤ 4096) := fun P hP => by
    have := congrArg List.length hP
    unfold hpT at this
    rw [List.length_map, List.length_map] at this
    omega
  have hn2 : Hid (∀ P : List Vp, pts P = hpT s hp 0 t (eds M) → P.length ≤ 4096) := fun P hP => by
    have := congrArg List.length hP
    unfold hpT at this
    rw [List.length_map, List.length_map] at this
    omega
  replace hE1 := hide hE1
  replace hE2 := hide hE2
  replace hG1 := hide hG1
  replace hG2 := hide hG2
  clear hm1 hm2 hlow k1 k2 k4 k5 k6 e1 e2
  go_enter Try.func9, Try.ntmps9
  go_wp2_with (first | (go_at_call 30; first | ((with_reducible refine (hA1.out _ (Ext.refl _)).mono ?_); rintro ee w1 ⟨v1, N1, rfl, hN1, ho1, hY⟩; have hX1 := hide hY; have hs1 := hide ho1.ew; have hN1' := hide hN1; obtain ⟨A1, c1, q1⟩ := own_form ho1.1; subst q1; clear ho1 hY hN1) | ((with_reducible refine (hA2.out _ hX1.out).mono ?_); rintro ee w2 ⟨v2, N2, rfl, hN2, ho2, hY⟩; have hX2 := hide (hX1.out.trans hY); have hs2 := hide ho2.ew; have hs12 := hide (hs1.out.ext hY); have hN2' := hide hN2; obtain ⟨A2, c2, q2⟩ := own_form ho2.1; subst q2; clear ho2 hY hN2)) | (go_at_call 31; go_loud (have hsm := refEdgeSame_c hs12.out hs2.out; rw [hN1'.out, hN2'.out, hXX] at hsm; (with_reducible refine seq_gw hsm ?_); intro g3; clear hsm; have hX3 := hide (hX2.out.trans g3.grown))) | (go_at_call 32; first | ((with_reducible refine (hp1.out _ hX3.out).mono ?_); rintro ee w4 ⟨v4, P4, rfl, hP4, ho4, hY⟩; have hX4 := hide (hX3.out.trans hY); have hQ4 := hide hP4; have hO4 := hide ho4; obtain ⟨A4, c4, q4⟩ := ho4.form; subst q4; clear ho4 hY hP4) | ((with_reducible refine (hp2.out _ hX4.out).mono ?_); rintro ee w5 ⟨v5, P5, rfl, hP5, ho5, hY⟩; have hX5 := hide (hX4.out.trans hY); have hQ5 := hide hP5; have hO5 := hide ho5; have hO45 := hide (hO4.out.ext hY); obtain ⟨A5, c5, q5⟩ := ho5.form; subst q5; clear ho5 hY hP5)) | (go_at_call 26; (with_reducible refine seq_gw (hl.out _) ?_); intro g9) | (go_at_call 33; first | ((with_reducible refine (hclosed_c P4 t _ _ (hO45.out.ext g9.grown).pw (hn1.out _ hQ4.out)).mono ?_); rintro ee w6 ⟨v6, rfl, hp6, hY⟩; have hX6 := hide (hX5.out.trans (g9.grown.trans hY)); have hp6' := hide hp6; have hY6 := hide (g9.grown.trans hY); obtain ⟨A6, c6, q6, -⟩ := pw_form hp6; subst q6; clear hp6 hY) | ((with_reducible refine (hclosed_c P5 t _ _ (hO5.out.ext hY6.out).pw (hn2.out _ hQ5.out)).mono ?_); rintro ee w7 ⟨v7, rfl, hp7, hY⟩; have hX7 := hide (hX6.out.trans hY); have hp7' := hide hp7; have hp67 := hide (hp6'.out.ext hY); obtain ⟨A7, c7, q7, -⟩ := pw_form hp7; subst q7; clear hp7 hY)) | (go_at_call 21; (with_reducible refine seq_gw (refSameParts_c _ _ (hEQ.out P4 P5 hQ4.out hQ5.out) _ _ _ hp67.out hp7'.out) ?_); intro g10))
  go_returns
  exact ⟨by first | rfl | simp, hX7.out.trans g10.grown⟩
end Go.Proofs.Ytjdbjnpomndfjaa
