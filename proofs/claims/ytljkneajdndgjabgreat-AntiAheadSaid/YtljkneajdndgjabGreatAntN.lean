/-
  A helper of ours: no claim of its own. Layer 32 (anti): the walk of the law AntiAhead.
-/
import Derived.Test.YtljkneajdndgjabGreatAntM
set_option linter.unusedVariables false
set_option linter.unusedSimpArgs false
namespace Go.Proofs.YtljkneajdndgjabGreat
open Go.RowKit
attribute [local go_sem] GW.cell GW.frozen In.eq_true In.le_true In.ne In.ne' In.ne_add In.ne_add' In.lt_add Upto.le_true Upto.le_add Upto.lt_add
set_option maxHeartbeats 8000000 in
set_option maxRecDepth 100000 in
theorem antiAhead_walk (L R : List Ve) (ws : List Vl) (t : Int) (hLi : ∀ e ∈ eds L, ∀ v ∈ e.1, inW v) (hRi : ∀ e ∈ eds R, ∀ v ∈ e.1, inW v) (hi : ∀ v ∈ ws, inW v) (v u vx : Value) (w : World) (hL : Ew w [] v L) (hR : Ew w [] u R) (hx : Rw w [] vx ws) :
    Calls Tryz.prog 10 #[v, u, vx, .int .i64 t] w fun e w' => e = .returned (.bool true) ∧ Ext w w' := by
  have hl := hide (fun w => antLive_c w)
  have ha1 := hide (antAlone_c ws L R hi (grp_in hLi) (grp_in hRi) v u vx w hL hR hx)
  have ha2 := hide (fun M v' w' (hX : Ext w w') (hM : Ew w' [] v' M) => edgeAhead_c M t v' w' hM)
  have ha3 := hide (fun w' (hX : Ext w w') => edgeAhead_c L t v w' (hL.ext hX))
  have ha4 := hide (fun w' (hX : Ext w w') => edgeAhead_c R t u w' (hR.ext hX))
  have ha5 := hide (fun P Q vp vq w' (hX : Ext w w') (hP : eds P = mpR (ahOp t) (eds L)) (hQ : eds Q = mpR (ahOp t) (eds R)) (h1 : Ew w' [] vp P) (h2 : Ew w' [] vq Q) =>
    antAlone_c ws P Q hi (grp_in (by rw [hP]; exact mp_in hLi)) (grp_in (by rw [hQ]; exact mp_in hRi)) vp vq vx w' h1 h2 (Sl.ext hx hX))
  have hsame := hide (fun (h1 : aoE (eds L) (eds R) ws = 0) (h2 : mpE (ahOp t) (aoR (eds L) (eds R) ws) = 0) (h3 : mpE (ahOp t) (eds L) = 0) (h4 : mpE (ahOp t) (eds R) = 0) (h5 : aoE (mpR (ahOp t) (eds L)) (mpR (ahOp t) (eds R)) ws = 0) => al_ahead h1 h2 h3 h4 h5)
  obtain ⟨XA, xcap, rfl, -, -, -⟩ := rw_form hx
  obtain ⟨LA, lcap, rfl, -, -, -⟩ := ew_form hL
  obtain ⟨UA, ucap, rfl, -, -, -⟩ := ew_form hR
  clear hL hR hx hi hLi hRi
  obtain ⟨A, hA⟩ : ∃ A, A = aoR (eds L) (eds R) ws := ⟨_, rfl⟩
  obtain ⟨P, hP⟩ : ∃ P, P = mpR (ahOp t) (eds L) := ⟨_, rfl⟩
  obtain ⟨Q, hQ⟩ : ∃ Q, Q = mpR (ahOp t) (eds R) := ⟨_, rfl⟩
  rw [← hA] at ha1 hsame
  rw [← hP] at ha3 ha5 hsame
  rw [← hQ] at ha4 ha5 hsame
  obtain ⟨B, hB⟩ : ∃ B, B = mpR (ahOp t) A := ⟨_, rfl⟩
  obtain ⟨C, hC⟩ : ∃ C, C = aoR P Q ws := ⟨_, rfl⟩
  obtain ⟨E1, hE1⟩ : ∃ E, E = aoE (eds L) (eds R) ws := ⟨_, rfl⟩
  obtain ⟨E2, hE2⟩ : ∃ E, E = mpE (ahOp t) A := ⟨_, rfl⟩
  obtain ⟨E3, hE3⟩ : ∃ E, E = mpE (ahOp t) (eds L) := ⟨_, rfl⟩
  obtain ⟨E4, hE4⟩ : ∃ E, E = mpE (ahOp t) (eds R) := ⟨_, rfl⟩
  obtain ⟨E5, hE5⟩ : ∃ E, E = aoE P Q ws := ⟨_, rfl⟩
  rw [← hE1] at ha1 hsame
  rw [← hE3] at ha3 hsame
  rw [← hE4] at ha4 hsame
  rw [← hB, ← hC, ← hE2, ← hE5] at hsame
  replace ha2 := hide (fun M v' w' (hX : Ext w w') (hM : Ew w' [] v' M) (hMA : eds M = A) => (show Calls Tryz.prog 22 #[v', .int .i64 t] w' fun e w'' => ∃ v'' N, e = .returned (.tuple #[v'', .int .i64 E2]) ∧ eds N = B ∧ OwnEr w'' w'.heap.size v'' N ∧ Ext w' w'' by
    have h := ha2.out M v' w' hX hM
    rw [hMA, ← hE2, ← hB] at h
    exact h))
  replace ha5 := hide (fun P1 Q1 vp vq w' (hX : Ext w w') (hP1 : eds P1 = P) (hQ1 : eds Q1 = Q) (h1 : Ew w' [] vp P1) (h2 : Ew w' [] vq Q1) => (show Calls Tryz.prog 28 #[vp, vq, .slice XA ws.length xcap] w' fun e w'' => ∃ v'' N, e = .returned (.tuple #[v'', .int .i64 E5]) ∧ eds N = C ∧ OwnEr w'' w'.heap.size v'' N ∧ Ext w' w'' by
    have h := ha5.out P1 Q1 vp vq w' hX hP1 hQ1 h1 h2
    rw [hP1, hQ1, ← hE5, ← hC] at h
    exact h))
  clear hA hP hQ hB hC hE1 hE2 hE3 hE4 hE5
  have hcases : (E1 ≠ 0 ∨ (E1 = 0 ∧ E2 ≠ 0) ∨ (E1 = 0 ∧ E2 = 0 ∧ E3 ≠ 0) ∨ (E1 = 0 ∧ E2 = 0 ∧ E3 = 0 ∧ E4 ≠ 0) ∨ (E1 = 0 ∧ E2 = 0 ∧ E3 = 0 ∧ E4 = 0 ∧ E5 ≠ 0)) ∨ (E1 = 0 ∧ E2 = 0 ∧ E3 = 0 ∧ E4 = 0 ∧ E5 = 0) := by omega
  rcases hcases with hc | ⟨rfl, rfl, rfl, rfl, rfl⟩
  case inl =>
    clear hsame
    rcases hc with hc | ⟨rfl, hc⟩ | ⟨rfl, rfl, hc⟩ | ⟨rfl, rfl, rfl, hc⟩ | ⟨rfl, rfl, rfl, rfl, hc⟩
    all_goals
      have hne := (bne_iff_ne).2 hc
      clear hc
      go_enter Tryz.func10, Tryz.ntmps10
      go_wp2_with (first
        | (go_at_call 28; (with_reducible refine (ha5.out _ _ _ _ _ hx6.out hM5.out hM6.out (he5.out.ext hx56.out) he6.out).mono ?_); rintro ee w7 ⟨v7, M7, rfl, hM7, ho7, hx7⟩; have hx7' := hide (hx6.out.trans hx7); obtain ⟨A7, c7, q7⟩ := own_form ho7.1; subst q7; clear ho7 hx7 hM7)
        | (go_at_call 22; (with_reducible refine (ha4.out _ hx5.out).mono ?_); rintro ee w6 ⟨v6, M6, rfl, hM60, ho6, hx60⟩; have hx6 := hide (hx5.out.trans hx60); have hx56 := hide hx60; have hM6 := hide hM60; have he6 := hide ho6.ew; obtain ⟨A6, c6, q6⟩ := own_form ho6.1; subst q6; clear ho6 hx60 hM60)
        | (go_at_call 22; (with_reducible refine (ha3.out _ hx4.out).mono ?_); rintro ee w5 ⟨v5, M5, rfl, hM50, ho5, hx50⟩; have hx5 := hide (hx4.out.trans hx50); have hM5 := hide hM50; have he5 := hide ho5.ew; obtain ⟨A5, c5, q5⟩ := own_form ho5.1; subst q5; clear ho5 hx50 hM50)
        | (go_at_call 22; (with_reducible refine (ha2.out _ _ _ hx3.out he3.out hM3.out).mono ?_); rintro ee w4 ⟨v4, M4, rfl, hM40, ho4, hx40⟩; have hx4 := hide (hx3.out.trans hx40); have hM4 := hide hM40; have he4 := hide ho4.ew; obtain ⟨A4, c4, q4⟩ := own_form ho4.1; subst q4; clear ho4 hx40 hM40)
        | (go_at_call 28; (with_reducible refine (ha1.out).mono ?_); rintro ee w3 ⟨v3, M3, rfl, hM30, ho3, hx30⟩; have hx3 := hide hx30; have hM3 := hide hM30; have he3 := hide ho3.ew; obtain ⟨A3, c3, q3⟩ := own_form ho3.1; subst q3; clear ho3 hx30 hM30)
        | (go_at_call 24; (with_reducible refine seq_gw (hl.out _) ?_); intro g8))
      go_returns
      exact ⟨by first | rfl | simp, hx7'.out.trans g8.grown⟩
  have hBC := hide (hsame.out rfl rfl rfl rfl rfl)
  go_enter Tryz.func10, Tryz.ntmps10
  go_wp2_with (first
    | (go_at_call 28; (with_reducible refine (ha5.out _ _ _ _ _ hx6.out hM5.out hM6.out (he5.out.ext hx56.out) he6.out).mono ?_); rintro ee w7 ⟨v7, M7, rfl, hM7, ho7, hx7⟩; have hx7' := hide (hx6.out.trans hx7); have he7 := hide ho7.ew; have he47 := hide (he4.out.ext (hx46.out.trans hx7)); have hsm := hide (fun w' (hX : Ext w7 w') => refEdgeSame_c (he47.out.ext hX) (he7.out.ext hX)); rw [hM4.out, hM7, hBC.out, show decide (C = C) = true by simp] at hsm; obtain ⟨A7, c7, q7⟩ := own_form ho7.1; subst q7; clear ho7 hx7 hM7)
    | (go_at_call 22; (with_reducible refine (ha4.out _ hx5.out).mono ?_); rintro ee w6 ⟨v6, M6, rfl, hM60, ho6, hx60⟩; have hx6 := hide (hx5.out.trans hx60); have hx56 := hide hx60; have hx46 := hide (hx45.out.trans hx60); have hM6 := hide hM60; have he6 := hide ho6.ew; obtain ⟨A6, c6, q6⟩ := own_form ho6.1; subst q6; clear ho6 hx60 hM60)
    | (go_at_call 22; (with_reducible refine (ha3.out _ hx4.out).mono ?_); rintro ee w5 ⟨v5, M5, rfl, hM50, ho5, hx50⟩; have hx5 := hide (hx4.out.trans hx50); have hx45 := hide hx50; have hM5 := hide hM50; have he5 := hide ho5.ew; obtain ⟨A5, c5, q5⟩ := own_form ho5.1; subst q5; clear ho5 hx50 hM50)
    | (go_at_call 22; (with_reducible refine (ha2.out _ _ _ hx3.out he3.out hM3.out).mono ?_); rintro ee w4 ⟨v4, M4, rfl, hM40, ho4, hx40⟩; have hx4 := hide (hx3.out.trans hx40); have hM4 := hide hM40; have he4 := hide ho4.ew; obtain ⟨A4, c4, q4⟩ := own_form ho4.1; subst q4; clear ho4 hx40 hM40)
    | (go_at_call 28; (with_reducible refine (ha1.out).mono ?_); rintro ee w3 ⟨v3, M3, rfl, hM30, ho3, hx30⟩; have hx3 := hide hx30; have hM3 := hide hM30; have he3 := hide ho3.ew; obtain ⟨A3, c3, q3⟩ := own_form ho3.1; subst q3; clear ho3 hx30 hM30)
    | (go_at_call 24; (with_reducible refine seq_gw (hl.out _) ?_); intro g8)
    | (go_at_call 15; (with_reducible refine seq_gw' (hsm.out _ g8.grown) ?_); intro g9))
  go_returns
  exact ⟨by first | rfl | simp, hx7'.out.trans g9.grown⟩
end Go.Proofs.YtljkneajdndgjabGreat
