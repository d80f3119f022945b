/-
  A helper of ours: no claim of its own. Layer 10 (edge): edges of a row with a function, and a row's jumps, by the code.
-/
import Derived.Test.YtljkneajdndgjabGreatEdgMy
import Derived.Test.YtljkneajdndgjabGreatStepX
import Derived.Test.YtljkneajdndgjabGreatEvaY
import Derived.Test.YtljkneajdndgjabGreatExpC
import Derived.Test.YtljkneajdndgjabGreatDrRowD
import Derived.Test.YtljkneajdndgjabGreatStepE
import Derived.Test.YtljkneajdndgjabGreatSortE
import Derived.Test.YtljkneajdndgjabGreatAntB
import Derived.Test.YtljkneajdndgjabGreatSpanA
import Derived.Test.YtljkneajdndgjabGreatReg4
set_option linter.unusedVariables false
set_option linter.unusedSimpArgs false
namespace Go.Proofs.YtljkneajdndgjabGreat
open Go.RowKit
attribute [local go_sem] GW.cell GW.frozen In.eq_true In.le_true In.ne In.ne' In.ne_add In.ne_add' In.lt_add Upto.le_true Upto.le_add Upto.lt_add
theorem hoX_bad {l r : List Vl} (h : (hoX l r).2 ≠ 0) : (hoX l r).1 = false := by
  unfold hoX at h ⊢
  split
  · split
    · rename_i h1 h2
      rw [if_pos h1, if_pos h2] at h
      exact absurd rfl h
    · rfl
  · rfl
set_option maxHeartbeats 16000000 in
set_option maxRecDepth 100000 in
theorem refPartners_c (r ws : List Vl) (f : List Jp) (L : List Ve) (hri : ∀ v ∈ r, inW v) (hi : ∀ v ∈ ws, inW v) (hGi : ∀ e ∈ eds L, ∀ v ∈ e.1, inW v) (hz : L.length ≤ 1000000000) (v vr vf vx : Value) (w : World) (hr : Rw w [] vr r) (hf : Jw w [] vf f) (hC : Ew w [] v L) (hx : Rw w [] vx ws) :
    Calls Tryz.prog 26 #[vr, vf, v, vx] w fun e w' => ∃ v', e = .returned (.tuple #[v', .int .i64 (apE r f (eds L) ws)]) ∧ Jw w' [] v' (apR r f (eds L) ws) ∧ Ext w w' := by
  have h1 := hide (refRowMay_c r vr w hr)
  have h2 := hide (fun w' (hX : Ext w w') => refStepMay_c f vf w' (Sl.ext hf hX))
  have h3 := hide (fun w' (hX : Ext w w') => refEdgeMay_c L v w' (hC.ext hX))
  have h4 := hide (fun w' (hX : Ext w w') => refEdgeTable_c L v w' (hC.ext hX))
  have h5 := hide (fun w' (hX : Ext w w') => refForm_c ws vx w' (Sl.ext hx hX))
  have h6 := hide (fun (hv : ∀ e ∈ eds L, mayR e.1 = true) w' (hX : Ext w w') => refRows_c L v w' (hC.ext hX) hv hz)
  have hr' := hide hr
  have hf' := hide hf
  have hx' := hide hx
  have hC' := hide hC
  obtain ⟨RA, rcap, rfl, -, -, -⟩ := rw_form hr
  obtain ⟨FA, fcap, rfl, -, -, -⟩ := jw_form hf
  obtain ⟨XA, xcap, rfl, -, -, -⟩ := rw_form hx
  obtain ⟨LA, lcap, rfl, -, hlm, -⟩ := ew_form hC
  unfold maxLen at hlm
  clear hr hf hC hx
  unfold apE apR
  obtain ⟨P, hP⟩ : ∃ P, P = pGo r f ws (grp (eds L)) [] := ⟨_, rfl⟩
  rw [← hP]
  obtain ⟨F, hF⟩ : ∃ F, F = formE ws := ⟨_, rfl⟩
  rw [← hF] at h5 ⊢
  clear hF
  cases ha : mayR r
  · rw [ha] at h1
    clear h2 h3 h4 h5 h6 ha
    go_enter Tryz.func26, Tryz.ntmps26
    go_wp2_with (go_at_call 47; (with_reducible refine seq_gw h1.out ?_); intro g)
    go_returns
    exact ⟨_, rfl, Sl.nil _ _ _, g.grown⟩
  rw [ha] at h1
  clear ha
  cases hb : mayJ f
  · rw [hb] at h2
    clear h3 h4 h5 h6 hb
    go_enter Tryz.func26, Tryz.ntmps26
    go_wp2_with (first | (go_at_call 47; (with_reducible refine seq_gw h1.out ?_); intro g) | (go_at_call 57; (with_reducible refine seq_gw' (h2.out _ g.grown) ?_); intro g2))
    go_returns
    exact ⟨_, rfl, Sl.nil _ _ _, g2.grown⟩
  rw [hb] at h2
  clear hb
  cases hc : mayE (eds L)
  · rw [hc] at h3
    clear h4 h5 h6 hc
    go_enter Tryz.func26, Tryz.ntmps26
    go_wp2_with (first | (go_at_call 47; (with_reducible refine seq_gw h1.out ?_); intro g) | (go_at_call 57; (with_reducible refine seq_gw' (h2.out _ g.grown) ?_); intro g2) | (go_at_call 39; (with_reducible refine seq_gw' (h3.out _ g2.grown) ?_); intro g3))
    go_returns
    exact ⟨_, rfl, Sl.nil _ _ _, g3.grown⟩
  rw [hc] at h3
  have hge0 := grp_eq (mayE_rise hc)
  have hvE := hide (mayE_rise hc).1
  clear hc
  cases hd : tabE (eds L)
  · rw [hd] at h4
    clear h5 h6 hd
    go_enter Tryz.func26, Tryz.ntmps26
    go_wp2_with (first | (go_at_call 47; (with_reducible refine seq_gw h1.out ?_); intro g) | (go_at_call 57; (with_reducible refine seq_gw' (h2.out _ g.grown) ?_); intro g2) | (go_at_call 39; (with_reducible refine seq_gw' (h3.out _ g2.grown) ?_); intro g3) | (go_at_call 58; (with_reducible refine seq_gw' (h4.out _ g3.grown) ?_); intro g4))
    go_returns
    exact ⟨_, rfl, Sl.nil _ _ _, g4.grown⟩
  rw [hd] at h4
  clear hd
  by_cases he : F = 0
  case neg =>
    have he' : (F != 0) = true := by simpa using he
    rw [if_pos (by rfl), if_pos rfl, if_neg he, if_pos (by rfl), if_pos rfl, if_neg he]
    clear h6 he
    go_enter Tryz.func26, Tryz.ntmps26
    go_wp2_with (first | (go_at_call 47; (with_reducible refine seq_gw h1.out ?_); intro g) | (go_at_call 57; (with_reducible refine seq_gw' (h2.out _ g.grown) ?_); intro g2) | (go_at_call 39; (with_reducible refine seq_gw' (h3.out _ g2.grown) ?_); intro g3) | (go_at_call 58; (with_reducible refine seq_gw' (h4.out _ g3.grown) ?_); intro g4) | (go_at_call 40; (with_reducible refine seq_gw' (h5.out _ g4.grown) ?_); intro g5))
    go_returns
    exact ⟨_, rfl, Sl.nil _ _ _, g5.grown⟩
  subst he
  rw [if_pos (by rfl), if_pos rfl, if_pos rfl, if_pos (by rfl), if_pos rfl, if_pos rfl]
  have hvR : Hid (∀ q ∈ rowsL (eds L), mayR q = true) := fun q hq => by
    obtain ⟨e, he, rfl⟩ := ((rowsL_ok hvE.out).2 q).1 hq
    exact hvE.out e he
  have hqi : Hid (∀ q ∈ rowsL (eds L), ∀ v ∈ q, inW v) := fun q hq => by
    obtain ⟨e, he, rfl⟩ := ((rowsL_ok hvE.out).2 q).1 hq
    exact hGi e he
  obtain ⟨G, hG⟩ : ∃ G, G = grp (eds L) := ⟨_, rfl⟩
  rw [← hG] at hP hge0
  have hGl : G.length = (rowsL (eds L)).length := by rw [hge0, byRows_len]
  have hGk : Hid (∀ k q, (rowsL (eds L))[k]? = some q → G[k]? = some (q, jmps (eds L) q)) := fun k q h => by rw [hge0]; exact byRows_get h
  clear hG hge0
  replace hP := hide hP
  go_enter Tryz.func26, Tryz.ntmps26
  go_wp2_with (first | (go_at_call 47; (with_reducible refine seq_gw h1.out ?_); intro g) | (go_at_call 57; (with_reducible refine seq_gw' (h2.out _ g.grown) ?_); intro g2) | (go_at_call 39; (with_reducible refine seq_gw' (h3.out _ g2.grown) ?_); intro g3) | (go_at_call 58; (with_reducible refine seq_gw' (h4.out _ g3.grown) ?_); intro g4) | (go_at_call 40; (with_reducible refine seq_gw' (h5.out _ g4.grown) ?_); intro g5) | (go_at_call 41; refine (h6.out hvE.out _ (g5.grown.alloc _)).mono ?_; rintro ee w2 ⟨rv, M, rfl, hM0, hrs0, hMq0, hx20⟩))
  have hXl := hide (g5.grown)
  have hlit := hide (World.ownsRow_lit (base := g5.val.heap.size) (e := 80) (size := 2) g5.val #[] 0 (Nat.le_refl _) (by decide) rfl)
  have hM := hide hM0
  have hx2 := hide ((g5.grown.alloc _).trans hx20)
  have hML : Hid (M.length = G.length) := by show _ = _; rw [hGl, ← hM0]; simp [rvs]
  have hMr : Hid (∀ p ∈ M, Rw w2 [] p.1 p.2) := fun p hp => by
    obtain ⟨q, hq, e1, e2⟩ := hMq0 p hp
    rw [← e1, ← e2]; exact Sl.ext (hC'.out.2 q hq) hx2.out
  have hrsl := hide (Sl.own (S := []) hrs0 (by simp))
  obtain ⟨MA, mcap, e9, hrc, hrm, hrt0⟩ := rs_form hrsl.out
  subst e9
  have hrt := hide hrt0
  unfold maxLen at hrm
  have hJ0 := hide (own_jw (S := []) (show OwnJ w2 g5.val.heap.size (.slice (some ⟨g5.val.heap.size, 0, none⟩) 0 0) [] from own_ext hlit.out hx20) (by simp))
  clear hM0 hrs0 hMq0 hx20 hrt0 h1 h2 h3 h4 h5 h6 hGl
  go_loopg [11, 13] M.length (fun gh vv i wq => ∃ (k : Nat) (S : List Jp), i = .int .i64 k ∧ k + gh = M.length ∧ Jw wq [] vv S ∧ Hid (pGo r f ws (G.drop k) S = P) ∧ Ext w2 wq)
  case atStart => exact ⟨0, [], rfl, by omega, hJ0.out, hP.out.symm, Ext.refl w2⟩
  case round =>
    obtain ⟨k, S, rfl, hk, hS, hgo, hX⟩ := hrel
    obtain ⟨wq, hwq⟩ : ∃ wq, wq = wr := ⟨_, rfl⟩
    subst hwq
    clear hJ0
    obtain ⟨SA, scap, rfl, -, -, -⟩ := jw_form hS
    by_cases hlt : k < M.length
    · obtain ⟨⟨pv, pr⟩, hp⟩ : ∃ p, M[k]? = some p := ⟨_, List.getElem?_eq_getElem hlt⟩
      have hpr : (rowsL (eds L))[k]? = some pr := by rw [← hM.out]; simp [rvs, hp]
      obtain ⟨b', o', rfl, -, hb', d0⟩ := hrt.out k _ hp
      have j0 := cell_later hX d0
      have hbr : b' < _ := block_lt_of_cell j0
      have hpw := hide (Sl.ext (hMr.out _ (List.mem_of_getElem? hp)) hX)
      simp only at j0 hpw
      have hgk := hGk.out k pr hpr
      have hpi := hqi.out pr (List.mem_of_getElem? hpr)
      have hXw := hide (hx2.out.trans hX)
      have hj := hide (refJumps_c L pr (.slice LA L.length lcap) pv _ (hC'.out.ext hXw.out) hpw.out hz)
      obtain ⟨J, hJ⟩ : ∃ J, J = jmps (eds L) pr := ⟨_, rfl⟩
      rw [← hJ] at hj hgk
      have hmu := hide (fun u w' (hX2 : Ext wq w') (hu : Jw w' [] u J) => refTwoMul_c f J (.slice FA f.length fcap) u w' (Sl.ext hf'.out (hXw.out.trans hX2)) hu)
      have hjo := hide (fun w' (hX2 : Ext wq w') => refRowJoin_c r pr (.slice RA r.length rcap) pv w' (Sl.ext hr'.out (hXw.out.trans hX2)) (Sl.ext hpw.out hX2))
      have hho := hide (fun u w' (hX2 : Ext wq w') (hu : Rw w' [] u (joinV r pr)) => refHolds_c ws (joinV r pr) (joinV_in hri hpi) hi (.slice XA ws.length xcap) u w' (Sl.ext hx'.out (hXw.out.trans hX2)) hu)
      have had := hide (fun u w' (hX2 : Ext wq w') (hu : Jw w' [] u J) => refTwoAdd_c S J (.slice SA S.length scap) u w' (Sl.ext hS hX2) hu)
      have hst := hide (fun (h : pE r f ws S pr J = 0) => (pGo_step hgk h).symm.trans hgo.out)
      have hsp := hide (fun (h : pE r f ws S pr J ≠ 0) => (pGo_stop hgk h).symm.trans hgo.out)
      have hbad := hide (fun (h : (hoX ws (joinV r pr)).2 ≠ 0) => hoX_bad h)
      obtain ⟨XA2, xcap2, rfl⟩ := rw_val hpw.out
      have hS' := hide hS
      haveI : In b' _ := ⟨hbr⟩
      unfold pE pS isX at hst
      unfold pE isX at hsp
      obtain ⟨E1, hE1⟩ : ∃ E, E = twE mulO f J := ⟨_, rfl⟩
      obtain ⟨R1, hR1⟩ : ∃ R, R = twR mulO f J := ⟨_, rfl⟩
      obtain ⟨E2, hE2⟩ : ∃ E, E = joinE r pr := ⟨_, rfl⟩
      obtain ⟨V2, hV2⟩ : ∃ V, V = joinV r pr := ⟨_, rfl⟩
      rw [← hV2] at hst hsp hjo hho hbad
      obtain ⟨⟨B3, E3⟩, hH⟩ : ∃ Y, Y = hoX ws V2 := ⟨_, rfl⟩
      obtain ⟨E4, hE4⟩ : ∃ E, E = twE addO S J := ⟨_, rfl⟩
      obtain ⟨R4, hR4⟩ : ∃ R, R = twR addO S J := ⟨_, rfl⟩
      rw [← hE1, ← hR1] at hmu
      rw [← hE2] at hjo
      rw [← hH] at hho hbad
      rw [← hE4, ← hR4] at had
      rw [← hE1, ← hR1, ← hE2, ← hH, ← hE4, ← hR4] at hst
      rw [← hE1, ← hR1, ← hE2, ← hH, ← hE4] at hsp
      clear d0 hp hJ hE1 hR1 hE2 hV2 hH hE4 hR4 hpr hgk hpi hS hgo
      dsimp only at hst hsp hho hbad
      by_cases c1 : E1 = 0
      case neg =>
        have b1 : (E1 != 0) = true := by simpa using c1
        have hPe := hide (hsp.out (by rw [if_neg c1, if_neg (by simp)]; exact c1))
        rw [if_neg c1] at hPe
        replace hPe := hide (show P = (E1, []) from hPe.out.symm)
        clear hst hsp hjo hho had hbad c1
        go_wp2_with (first | (go_at_call 19; refine hj.out.mono ?_; rintro ee w3 ⟨v3, rfl, ho3, hx3⟩; have hj3 := hide (own_jw ho3 (S := []) (by simp)); obtain ⟨C3, c3, q3⟩ := own_form ho3; subst q3; have hx3' := hide hx3; clear ho3 hx3) | (go_at_call 42; refine (hmu.out _ _ hx3'.out hj3.out).mono ?_; rintro ee w4 ⟨v4, rfl, ho4, hx4⟩; obtain ⟨C4, c4, q4⟩ := own_form ho4; subst q4; have hx34 := hide hx4; have hx4' := hide (hx3'.out.trans hx4); clear ho4 hx4; have j4 := cell_later hx4'.out j0; haveI : In b' w4 := ⟨block_lt_of_cell j4⟩))
        go_returns
        exact ⟨_, by rw [hPe.out]; rfl, by rw [hPe.out]; exact Sl.nil _ _ _, hXw.out.trans hx4'.out⟩
      subst c1
      rw [if_pos rfl] at hst hsp
      by_cases c2 : R1 = []
      case pos =>
        subst c2
        rw [if_pos rfl] at hst
        replace hst := hide (hst.out rfl)
        clear hsp hjo hho had hbad
        go_wp2_with (first | (go_at_call 19; refine hj.out.mono ?_; rintro ee w3 ⟨v3, rfl, ho3, hx3⟩; have hj3 := hide (own_jw ho3 (S := []) (by simp)); obtain ⟨C3, c3, q3⟩ := own_form ho3; subst q3; have hx3' := hide hx3; clear ho3 hx3) | (go_at_call 42; refine (hmu.out _ _ hx3'.out hj3.out).mono ?_; rintro ee w4 ⟨v4, rfl, ho4, hx4⟩; obtain ⟨C4, c4, q4⟩ := own_form ho4; subst q4; have hx34 := hide hx4; have hx4' := hide (hx3'.out.trans hx4); clear ho4 hx4; have j4 := cell_later hx4'.out j0; haveI : In b' w4 := ⟨block_lt_of_cell j4⟩))
        go_roundg (M.length - (k + 1))
        case measure => omega
        case rel => exact ⟨k + 1, S, by go_num, by omega, Sl.ext hS'.out hx4'.out, hst.out, hX.trans hx4'.out⟩
      rw [if_neg c2] at hst hsp
      have c2l : R1.length ≠ 0 := fun h => c2 (List.eq_nil_of_length_eq_zero h)
      have c2I : ((R1.length : Int) == 0) = false := by simpa using (show ¬ ((R1.length : Int) = 0) by omega)
      clear c2 c2l
      by_cases c3 : E2 = 0
      case neg =>
        have b3 : (E2 != 0) = true := by simpa using c3
        have hPe := hide (hsp.out (by rw [if_neg c3, if_neg (by simp)]; exact c3))
        rw [if_neg c3] at hPe
        replace hPe := hide (show P = (E2, []) from hPe.out.symm)
        clear hst hsp hho had hbad c3
        go_wp2_with (first | (go_at_call 19; refine hj.out.mono ?_; rintro ee w3 ⟨v3, rfl, ho3, hx3⟩; have hj3 := hide (own_jw ho3 (S := []) (by simp)); obtain ⟨C3, c3, q3⟩ := own_form ho3; subst q3; have hx3' := hide hx3; clear ho3 hx3) | (go_at_call 42; refine (hmu.out _ _ hx3'.out hj3.out).mono ?_; rintro ee w4 ⟨v4, rfl, ho4, hx4⟩; obtain ⟨C4, c4, q4⟩ := own_form ho4; subst q4; have hx34 := hide hx4; have hx4' := hide (hx3'.out.trans hx4); clear ho4 hx4; have j4 := cell_later hx4'.out j0; haveI : In b' w4 := ⟨block_lt_of_cell j4⟩) | (go_at_call 17; refine (hjo.out _ hx4'.out).mono ?_; rintro ee w5 ⟨v5, rfl, ho5, hx5⟩; have hj5 := hide (Sl.own (S := []) ho5 (by simp)); obtain ⟨C5, c5, q5⟩ := own_form ho5; subst q5; have hxs := hide (hx34.out.trans hx5); have hx5' := hide (hx4'.out.trans hx5); clear ho5 hx5))
        go_returns
        exact ⟨_, by rw [hPe.out]; rfl, by rw [hPe.out]; exact Sl.nil _ _ _, hXw.out.trans hx5'.out⟩
      subst c3
      rw [if_pos rfl] at hst hsp
      by_cases c4 : E3 = 0
      case neg =>
        have b4 : (E3 != 0) = true := by simpa using c4
        have hB := hbad.out c4
        subst hB
        have hPe := hide (hsp.out (by rw [if_neg (by simp)]; exact c4))
        rw [if_neg (by simp)] at hPe
        replace hPe := hide (show P = (E3, []) from hPe.out.symm)
        clear hst hsp had hbad c4
        go_wp2_with (first | (go_at_call 19; refine hj.out.mono ?_; rintro ee w3 ⟨v3, rfl, ho3, hx3⟩; have hj3 := hide (own_jw ho3 (S := []) (by simp)); obtain ⟨C3, c3, q3⟩ := own_form ho3; subst q3; have hx3' := hide hx3; clear ho3 hx3) | (go_at_call 42; refine (hmu.out _ _ hx3'.out hj3.out).mono ?_; rintro ee w4 ⟨v4, rfl, ho4, hx4⟩; obtain ⟨C4, c4, q4⟩ := own_form ho4; subst q4; have hx34 := hide hx4; have hx4' := hide (hx3'.out.trans hx4); clear ho4 hx4; have j4 := cell_later hx4'.out j0; haveI : In b' w4 := ⟨block_lt_of_cell j4⟩) | (go_at_call 17; refine (hjo.out _ hx4'.out).mono ?_; rintro ee w5 ⟨v5, rfl, ho5, hx5⟩; have hj5 := hide (Sl.own (S := []) ho5 (by simp)); obtain ⟨C5, c5, q5⟩ := own_form ho5; subst q5; have hxs := hide (hx34.out.trans hx5); have hx5' := hide (hx4'.out.trans hx5); clear ho5 hx5) | (go_at_call 43; (with_reducible refine seq_gw (hho.out _ _ hx5'.out hj5.out) ?_); intro g6))
        go_returns
        exact ⟨_, by rw [hPe.out]; rfl, by rw [hPe.out]; exact Sl.nil _ _ _, hXw.out.trans (hx5'.out.trans g6.grown)⟩
      subst c4
      cases B3 with
      | false =>
        replace hst := hide (hst.out (by rfl))
        clear hsp had hbad
        go_wp2_with (first | (go_at_call 19; refine hj.out.mono ?_; rintro ee w3 ⟨v3, rfl, ho3, hx3⟩; have hj3 := hide (own_jw ho3 (S := []) (by simp)); obtain ⟨C3, c3, q3⟩ := own_form ho3; subst q3; have hx3' := hide hx3; clear ho3 hx3) | (go_at_call 42; refine (hmu.out _ _ hx3'.out hj3.out).mono ?_; rintro ee w4 ⟨v4, rfl, ho4, hx4⟩; obtain ⟨C4, c4, q4⟩ := own_form ho4; subst q4; have hx34 := hide hx4; have hx4' := hide (hx3'.out.trans hx4); clear ho4 hx4; have j4 := cell_later hx4'.out j0; haveI : In b' w4 := ⟨block_lt_of_cell j4⟩) | (go_at_call 17; refine (hjo.out _ hx4'.out).mono ?_; rintro ee w5 ⟨v5, rfl, ho5, hx5⟩; have hj5 := hide (Sl.own (S := []) ho5 (by simp)); obtain ⟨C5, c5, q5⟩ := own_form ho5; subst q5; have hxs := hide (hx34.out.trans hx5); have hx5' := hide (hx4'.out.trans hx5); clear ho5 hx5) | (go_at_call 43; (with_reducible refine seq_gw (hho.out _ _ hx5'.out hj5.out) ?_); intro g6))
        go_roundg (M.length - (k + 1))
        case measure => omega
        case rel => exact ⟨k + 1, S, by go_num, by omega, Sl.ext hS'.out (hx5'.out.trans g6.grown), hst.out, hX.trans (hx5'.out.trans g6.grown)⟩
      | true =>
        rw [if_pos rfl] at hst hsp
        by_cases c5 : E4 = 0
        case neg =>
          have b5 : (E4 != 0) = true := by simpa using c5
          have hPe := hide (show P = (E4, []) from (hsp.out c5).symm)
          clear hst hsp hbad c5
          go_wp2_with (first | (go_at_call 19; refine hj.out.mono ?_; rintro ee w3 ⟨v3, rfl, ho3, hx3⟩; have hj3 := hide (own_jw ho3 (S := []) (by simp)); obtain ⟨C3, c3, q3⟩ := own_form ho3; subst q3; have hx3' := hide hx3; clear ho3 hx3) | (go_at_call 42; refine (had.out _ _ (hx5'.out.trans g6.grown) (Sl.ext hj3.out (hxs.out.trans g6.grown))).mono ?_; rintro ee w7 ⟨v7, rfl, ho7, hx7⟩; have hj7 := hide ho7; obtain ⟨C7, c7, q7⟩ := own_form ho7; subst q7; have hx7' := hide ((hx5'.out.trans g6.grown).trans hx7); clear ho7 hx7) | (go_at_call 42; refine (hmu.out _ _ hx3'.out hj3.out).mono ?_; rintro ee w4 ⟨v4, rfl, ho4, hx4⟩; obtain ⟨C4, c4, q4⟩ := own_form ho4; subst q4; have hx34 := hide hx4; have hx4' := hide (hx3'.out.trans hx4); clear ho4 hx4; have j4 := cell_later hx4'.out j0; haveI : In b' w4 := ⟨block_lt_of_cell j4⟩) | (go_at_call 17; refine (hjo.out _ hx4'.out).mono ?_; rintro ee w5 ⟨v5, rfl, ho5, hx5⟩; have hj5 := hide (Sl.own (S := []) ho5 (by simp)); obtain ⟨C5, c5, q5⟩ := own_form ho5; subst q5; have hxs := hide (hx34.out.trans hx5); have hx5' := hide (hx4'.out.trans hx5); clear ho5 hx5) | (go_at_call 43; (with_reducible refine seq_gw (hho.out _ _ hx5'.out hj5.out) ?_); intro g6))
          go_returns
          exact ⟨_, by rw [hPe.out]; rfl, by rw [hPe.out]; exact Sl.nil _ _ _, hXw.out.trans hx7'.out⟩
        subst c5
        replace hst := hide (hst.out rfl)
        clear hsp hbad
        go_wp2_with (first | (go_at_call 19; refine hj.out.mono ?_; rintro ee w3 ⟨v3, rfl, ho3, hx3⟩; have hj3 := hide (own_jw ho3 (S := []) (by simp)); obtain ⟨C3, c3, q3⟩ := own_form ho3; subst q3; have hx3' := hide hx3; clear ho3 hx3) | (go_at_call 42; refine (had.out _ _ (hx5'.out.trans g6.grown) (Sl.ext hj3.out (hxs.out.trans g6.grown))).mono ?_; rintro ee w7 ⟨v7, rfl, ho7, hx7⟩; have hj7 := hide ho7; obtain ⟨C7, c7, q7⟩ := own_form ho7; subst q7; have hx7' := hide ((hx5'.out.trans g6.grown).trans hx7); clear ho7 hx7) | (go_at_call 42; refine (hmu.out _ _ hx3'.out hj3.out).mono ?_; rintro ee w4 ⟨v4, rfl, ho4, hx4⟩; obtain ⟨C4, c4, q4⟩ := own_form ho4; subst q4; have hx34 := hide hx4; have hx4' := hide (hx3'.out.trans hx4); clear ho4 hx4; have j4 := cell_later hx4'.out j0; haveI : In b' w4 := ⟨block_lt_of_cell j4⟩) | (go_at_call 17; refine (hjo.out _ hx4'.out).mono ?_; rintro ee w5 ⟨v5, rfl, ho5, hx5⟩; have hj5 := hide (Sl.own (S := []) ho5 (by simp)); obtain ⟨C5, c5, q5⟩ := own_form ho5; subst q5; have hxs := hide (hx34.out.trans hx5); have hx5' := hide (hx4'.out.trans hx5); clear ho5 hx5) | (go_at_call 43; (with_reducible refine seq_gw (hho.out _ _ hx5'.out hj5.out) ?_); intro g6))
        go_roundg (M.length - (k + 1))
        case measure => omega
        case rel => exact ⟨k + 1, R4, by go_num, by omega, own_jw hj7.out (by simp), hst.out, hX.trans hx7'.out⟩
    · have hge : (M.length : Int) ≤ k := by omega
      have hfin := hgo.out
      rw [List.drop_eq_nil_of_le (by have := hML.out; omega)] at hfin
      have hPe := hide (show P = (0, S) from hfin.symm)
      have hS' := hide hS
      clear hfin hS hgo
      go_wp2_with fail
      go_returns
      exact ⟨_, by rw [hPe.out]; rfl, by rw [hPe.out]; exact hS'.out, hx2.out.trans hX⟩
end Go.Proofs.YtljkneajdndgjabGreat
set_option linter.unusedVariables false
set_option linter.unusedSimpArgs false
namespace Go.Proofs.YtljkneajdndgjabGreat.Dr
open Go.RowKit
attribute [local go_sem] GW.cell GW.frozen In.eq_true In.le_true In.ne In.ne' In.ne_add In.ne_add' In.lt_add Upto.le_true Upto.le_add Upto.lt_add
end Go.Proofs.YtljkneajdndgjabGreat.Dr
namespace Go.Proofs.YtljkneajdndgjabGreat
open Go.RowKit
/-- An edge whose row is one, and lies elsewhere than in block g. -/
abbrev SE (w : World) (g : Nat) := { p : Ve // Rw w [g] p.1 p.2.1 ∧ mayR p.2.1 = true }
instance (w : World) (g : Nat) : Inhabited (SE w g) := ⟨⟨(.slice none 0 0, [], (0, 0)), Sl.nil w [g] 3, rfl⟩⟩
end Go.Proofs.YtljkneajdndgjabGreat
set_option linter.unusedVariables false
set_option linter.unusedSimpArgs false
namespace Go.Proofs.YtljkneajdndgjabGreat
open Go.RowKit
attribute [local go_sem] GW.cell GW.frozen In.eq_true In.le_true In.ne In.ne' In.ne_add In.ne_add' In.lt_add Upto.le_true Upto.le_add Upto.lt_add
end Go.Proofs.YtljkneajdndgjabGreat
set_option linter.unusedVariables false
set_option linter.unusedSimpArgs false
namespace Go.Proofs.YtljkneajdndgjabGreat
open Go.RowKit
attribute [local go_sem] GW.cell GW.frozen In.eq_true In.le_true In.ne In.ne' In.ne_add In.ne_add' In.lt_add Upto.le_true Upto.le_add Upto.lt_add
end Go.Proofs.YtljkneajdndgjabGreat
set_option linter.unusedVariables false
set_option linter.unusedSimpArgs false
namespace Go.Proofs.YtljkneajdndgjabGreat
open Go.RowKit
attribute [local go_sem] GW.cell GW.frozen In.eq_true In.le_true In.ne In.ne' In.ne_add In.ne_add' In.lt_add Upto.le_true Upto.le_add Upto.lt_add Oper.semAt_some wide_depth wide_fn
set_option maxHeartbeats 4000000 in
set_option maxRecDepth 100000 in
theorem edgeBuild_c (r : List Vl) (f : List Jp) (u v : Value) (w : World) (hr : Rw w [] u r) (hf : Jw w [] v f) : Calls Tryz.prog 37 #[u, v] w fun e w' => ∃ v' M, e = .returned v' ∧ eds M = (if mayR r && mayJ f then f.map (fun j => (r, j)) else []) ∧ OwnEr w' w.heap.size v' M ∧ Ext w w' := by
  have h1 := hide (rowMay_c r u w hr)
  have h2 := hide (fun w' (hX : Ext w w') => stepMay_c f v w' (Sl.ext hf hX))
  have hr' := hide hr
  have hf' := hide hf
  obtain ⟨U, ucap, rfl⟩ := rw_val hr
  obtain ⟨V, vcap, rfl, -, -, -⟩ := jw_form hf
  obtain ⟨R, hR⟩ : ∃ R, R = (if mayR r && mayJ f then f.map (fun j => (r, j)) else []) := ⟨_, rfl⟩
  rw [← hR]
  clear hr hf
  cases ha : mayR r
  · rw [ha] at h1
    replace hR := hide (show eds [] = R by rw [hR, ha]; rfl)
    go_enter Tryz.func37, Tryz.ntmps37
    go_wp2_with (go_at_call 53; (with_reducible refine seq_gw h1.out ?_); intro g)
    go_returns
    exact ⟨_, [], rfl, hR.out, OwnEr.nil _ _, g.grown⟩
  rw [ha] at h1
  have hr8 := mayR_len ha
  cases hb : mayJ f
  · rw [hb] at h2
    replace hR := hide (show eds [] = R by rw [hR, ha, hb]; rfl)
    go_enter Tryz.func37, Tryz.ntmps37
    go_wp2_with (first | (go_at_call 53; (with_reducible refine seq_gw h1.out ?_); intro g) | (go_at_call 54; (with_reducible refine seq_gw' (h2.out _ g.grown) ?_); intro g2))
    go_returns
    exact ⟨_, [], rfl, hR.out, OwnEr.nil _ _, g2.grown⟩
  rw [hb] at h2
  have hfl := mayJ_len hb
  replace hR := hide (show (f.map fun j => (r, j)) = R by rw [hR, ha, hb]; rfl)
  go_enter Tryz.func37, Tryz.ntmps37
  go_wp2_with (first | (go_at_call 53; (with_reducible refine seq_gw h1.out ?_); intro g) | (go_at_call 54; (with_reducible refine seq_gw' (h2.out _ g.grown) ?_); intro g2) | (go_at_call 77; refine (edgesOf_c r f _ _ _ (Sl.ext hr'.out g2.grown) hr8 (Sl.ext hf'.out g2.grown) (by omega)).mono ?_; rintro ee w3 ⟨v3, M, rfl, hM, ho3, hX3⟩))
  go_returns
  exact ⟨_, M, rfl, hM.trans hR.out, ho3.lower g2.grown.size, g2.grown.trans hX3⟩

end Go.Proofs.YtljkneajdndgjabGreat
