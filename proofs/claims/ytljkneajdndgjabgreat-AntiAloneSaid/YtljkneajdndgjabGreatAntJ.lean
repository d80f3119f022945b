/-
  A helper of ours: no claim of its own. Layer 32 (anti): the rows without a partner, by the document's own steps.
-/
import Derived.Test.YtljkneajdndgjabGreatEdgBj
import Derived.Test.YtljkneajdndgjabGreatEdgNd
import Derived.Test.YtljkneajdndgjabGreatEdgNe
import Derived.Test.YtljkneajdndgjabGreatEdgPg
set_option linter.unusedVariables false
set_option linter.unusedSimpArgs false
namespace Go.Proofs.YtljkneajdndgjabGreat
open Go.RowKit
attribute [local go_sem] GW.cell GW.frozen In.eq_true In.le_true In.ne In.ne' In.ne_add In.ne_add' In.lt_add Upto.le_true Upto.le_add Upto.lt_add
theorem ra_jl {l : List Ed} {x : List Vl} {H : List Gp} (hl : mayE l = true) (h : (raGo x H (grp l) []).1 = 0) (r : List Vl) : (jmps (raGo x H (grp l) []).2 r).length ≤ 1024 := by
  have hR := mayE_rise hl
  have hrow := rowsL_ok hR.1
  obtain ⟨m1, m2⟩ := raGo_flat x H (grp l) [] h
  rw [grp_eq hR] at m1
  have hout : (raGo x H (grp l) []).2 = evL idO ((rowsL l).map fun q => (q, woR q (jmps l q) x H)) := by
    rw [m2, grp_eq hR]
    unfold byRows evL
    rw [List.nil_append, List.flatMap_map, List.flatMap_map]
    rfl
  rw [hout, jmps_rows idO (fun q => woR q (jmps l q) x H) r _ hrow.1]
  split
  · rename_i hr
    exact mayJ_len (woR_may (m1 (r, jmps l r) (List.mem_map.2 ⟨r, hasR_iff.1 hr, rfl⟩)))
  · simp
set_option maxHeartbeats 16000000 in
set_option maxRecDepth 100000 in
theorem refAlone_c (ws : List Vl) (L R : List Ve) (hL40 : L.length ≤ 40) (hR40 : R.length ≤ 1000000000) (hi : ∀ v ∈ ws, inW v) (hLi : ∀ e ∈ eds L, ∀ v ∈ e.1, inW v) (hRi : ∀ e ∈ eds R, ∀ v ∈ e.1, inW v) (v u vx : Value) (w : World) (hL : Ew w [] v L) (hR : Ew w [] u R) (hx : Rw w [] vx ws) :
    Calls Tryz.prog 29 #[v, u, vx] w fun e w' => ∃ v' M, e = .returned (.tuple #[v', .int .i64 (aoE (eds L) (eds R) ws)]) ∧ eds M = aoR (eds L) (eds R) ws ∧ OwnEr w' w.heap.size v' M ∧ Ext w w' := by
  have h1 := hide (refEdgeMay_c L v w hL)
  have h2 := hide (fun w' (hX : Ext w w') => refEdgeMay_c R u w' (hR.ext hX))
  have h3 := hide (fun w' (hX : Ext w w') => refEdgeTable_c L v w' (hL.ext hX))
  have h4 := hide (fun w' (hX : Ext w w') => refEdgeTable_c R u w' (hR.ext hX))
  have h5 := hide (fun w' (hX : Ext w w') => refForm_c ws vx w' (Sl.ext hx hX))
  have h6 := hide (fun (hv : ∀ e ∈ eds L, mayR e.1 = true) w' (hX : Ext w w') => refRows_c L v w' (hL.ext hX) hv (by omega))
  have hx' := hide hx
  have hL' := hide hL
  have hR' := hide hR
  obtain ⟨XA, xcap, rfl, -, -, -⟩ := rw_form hx
  obtain ⟨LA, lcap, rfl, -, -, -⟩ := ew_form hL
  obtain ⟨UA, ucap, rfl, -, -, -⟩ := ew_form hR
  clear hL hR hx
  obtain ⟨E, hE⟩ : ∃ E, E = aoE (eds L) (eds R) ws := ⟨_, rfl⟩
  obtain ⟨Q, hQ⟩ : ∃ Q, Q = aoR (eds L) (eds R) ws := ⟨_, rfl⟩
  rw [← hE, ← hQ]
  obtain ⟨F, hF⟩ : ∃ F, F = formE ws := ⟨_, rfl⟩
  rw [← hF] at h5
  have hQ0 : E ≠ 0 → Q = [] := fun h => by rw [hQ]; unfold aoR; rw [← hE, if_neg h]
  cases ha : mayE (eds L)
  · rw [ha] at h1
    have hE2 : E = 2 := by rw [hE]; unfold aoE; rw [ha, if_neg (by simp)]
    replace hQ := hide (hQ0 (by rw [hE2]; decide))
    clear hQ0 hE
    subst hE2
    clear h2 h3 h4 h5 h6 ha
    go_enter Tryz.func29, Tryz.ntmps29
    go_wp2_with (go_at_call 39; (with_reducible refine seq_gw h1.out ?_); intro g)
    go_returns
    first | exact ⟨_, [], rfl, by rw [hQ.out]; rfl, OwnEr.nil _ _, g.grown⟩ | exact ⟨_, rfl, [], by rw [hQ.out]; rfl, OwnEr.nil _ _, g.grown⟩
  rw [ha] at h1
  cases hb : mayE (eds R)
  · rw [hb] at h2
    have hE2 : E = 2 := by rw [hE]; unfold aoE; rw [hb, if_neg (by simp)]
    replace hQ := hide (hQ0 (by rw [hE2]; decide))
    clear hQ0 hE
    subst hE2
    clear h3 h4 h5 h6 ha hb
    go_enter Tryz.func29, Tryz.ntmps29
    go_wp2_with (first | (go_at_call 39; (with_reducible refine seq_gw h1.out ?_); intro g) | (go_at_call 39; (with_reducible refine seq_gw' (h2.out _ g.grown) ?_); intro g2))
    go_returns
    first | exact ⟨_, [], rfl, by rw [hQ.out]; rfl, OwnEr.nil _ _, g2.grown⟩ | exact ⟨_, rfl, [], by rw [hQ.out]; rfl, OwnEr.nil _ _, g2.grown⟩
  rw [hb] at h2
  cases hc : tabE (eds L)
  · rw [hc] at h3
    have hE2 : E = 20 := by rw [hE]; unfold aoE; rw [ha, hb, hc, if_pos (by rfl), if_neg (by simp)]
    replace hQ := hide (hQ0 (by rw [hE2]; decide))
    clear hQ0 hE
    subst hE2
    clear h4 h5 h6 ha hb hc
    go_enter Tryz.func29, Tryz.ntmps29
    go_wp2_with (first | (go_at_call 39; (with_reducible refine seq_gw h1.out ?_); intro g) | (go_at_call 39; (with_reducible refine seq_gw' (h2.out _ g.grown) ?_); intro g2) | (go_at_call 58; (with_reducible refine seq_gw' (h3.out _ g2.grown) ?_); intro g3))
    go_returns
    first | exact ⟨_, [], rfl, by rw [hQ.out]; rfl, OwnEr.nil _ _, g3.grown⟩ | exact ⟨_, rfl, [], by rw [hQ.out]; rfl, OwnEr.nil _ _, g3.grown⟩
  rw [hc] at h3
  cases hd : tabE (eds R)
  · rw [hd] at h4
    have hE2 : E = 20 := by rw [hE]; unfold aoE; rw [ha, hb, hd, if_pos (by rfl), if_neg (by simp)]
    replace hQ := hide (hQ0 (by rw [hE2]; decide))
    clear hQ0 hE
    subst hE2
    clear h5 h6 ha hb hc hd
    go_enter Tryz.func29, Tryz.ntmps29
    go_wp2_with (first | (go_at_call 39; (with_reducible refine seq_gw h1.out ?_); intro g) | (go_at_call 39; (with_reducible refine seq_gw' (h2.out _ g.grown) ?_); intro g2) | (go_at_call 58; (with_reducible refine seq_gw' (h3.out _ g2.grown) ?_); intro g3) | (go_at_call 58; (with_reducible refine seq_gw' (h4.out _ g3.grown) ?_); intro g4))
    go_returns
    first | exact ⟨_, [], rfl, by rw [hQ.out]; rfl, OwnEr.nil _ _, g4.grown⟩ | exact ⟨_, rfl, [], by rw [hQ.out]; rfl, OwnEr.nil _ _, g4.grown⟩
  rw [hd] at h4
  by_cases he : F = 0
  case neg =>
    have he' : (F != 0) = true := by simpa using he
    have hE2 : E = F := by rw [hE]; unfold aoE; rw [ha, hb, hc, hd, if_pos (by rfl), if_pos (by rfl), ← hF, if_neg he]
    replace hQ := hide (hQ0 (by rw [hE2]; exact he))
    clear hQ0 hE hF
    subst hE2
    clear h6 he ha hb hc hd
    go_enter Tryz.func29, Tryz.ntmps29
    go_wp2_with (first | (go_at_call 39; (with_reducible refine seq_gw h1.out ?_); intro g) | (go_at_call 39; (with_reducible refine seq_gw' (h2.out _ g.grown) ?_); intro g2) | (go_at_call 58; (with_reducible refine seq_gw' (h3.out _ g2.grown) ?_); intro g3) | (go_at_call 58; (with_reducible refine seq_gw' (h4.out _ g3.grown) ?_); intro g4) | (go_at_call 40; (with_reducible refine seq_gw' (h5.out _ g4.grown) ?_); intro g5))
    go_returns
    first | exact ⟨_, [], rfl, by rw [hQ.out]; rfl, OwnEr.nil _ _, g5.grown⟩ | exact ⟨_, rfl, [], by rw [hQ.out]; rfl, OwnEr.nil _ _, g5.grown⟩
  obtain ⟨s1, s2⟩ := ao_ra (eds L) (eds R) ws ha hb hc hd (hF.symm.trans he)
  rw [← hE] at s1
  rw [← hQ] at s2
  clear hE hQ hQ0
  obtain ⟨H, hH⟩ : ∃ H, H = grp (eds R) := ⟨_, rfl⟩
  rw [← hH] at s1 s2
  obtain ⟨P, hP⟩ : ∃ P, P = raGo ws H (grp (eds L)) [] := ⟨_, rfl⟩
  rw [← hP] at s1 s2
  have hjl := hide (fun (h : P.1 = 0) r => (show (jmps P.2 r).length ≤ 1024 by rw [hP] at h ⊢; exact ra_jl ha h r))
  have hpa0 := hide (fun q J (hq : mayR q = true) (hJ : mayJ J = true) => (show apE q J (eds R) ws = (pGo q J ws H []).1 ∧ apR q J (eds R) ws = (pGo q J ws H []).2 by
    unfold apE apR
    rw [hq, hJ, hb, hd, if_pos (by rfl), if_pos rfl, if_pos (hF.symm.trans he), if_pos (by rfl), if_pos rfl, if_pos (hF.symm.trans he), ← hH]
    exact ⟨rfl, rfl⟩))
  have hge0 := grp_eq (mayE_rise ha)
  have hvE := hide (mayE_rise ha).1
  have hmj := hide (fun r => mayJ_rows ha r)
  clear ha hb hc hd hF hH
  subst he
  replace s1 := hide s1
  replace s2 := hide s2
  have hvR : Hid (∀ q ∈ rowsL (eds L), mayR q = true) := fun q hq => by
    obtain ⟨e, he, rfl⟩ := ((rowsL_ok hvE.out).2 q).1 hq
    exact hvE.out e he
  have hqi : Hid (∀ q ∈ rowsL (eds L), ∀ v ∈ q, inW v) := fun q hq => by
    obtain ⟨e, he, rfl⟩ := ((rowsL_ok hvE.out).2 q).1 hq
    exact hLi e he
  have hrl := rowsL_len (eds L) hvE.out
  have hel : (eds L).length = L.length := List.length_map _
  obtain ⟨G, hG⟩ : ∃ G, G = grp (eds L) := ⟨_, rfl⟩
  rw [← hG] at hP hge0
  have hGl : G.length = (rowsL (eds L)).length := by rw [hge0, byRows_len]
  have hGk : Hid (∀ k q, (rowsL (eds L))[k]? = some q → G[k]? = some (q, jmps (eds L) q)) := fun k q h => by rw [hge0]; exact byRows_get h
  clear hG hge0
  replace hP := hide hP
  go_enter Tryz.func29, Tryz.ntmps29
  go_wp2_with (first | (go_at_call 39; (with_reducible refine seq_gw h1.out ?_); intro g) | (go_at_call 39; (with_reducible refine seq_gw' (h2.out _ g.grown) ?_); intro g2) | (go_at_call 58; (with_reducible refine seq_gw' (h3.out _ g2.grown) ?_); intro g3) | (go_at_call 58; (with_reducible refine seq_gw' (h4.out _ g3.grown) ?_); intro g4) | (go_at_call 40; (with_reducible refine seq_gw' (h5.out _ g4.grown) ?_); intro g5) | (go_at_call 41; refine (h6.out hvE.out _ (g5.grown.alloc _)).mono ?_; rintro ee w2 ⟨rv, M, rfl, hM0, hrs0, hMq0, hx20⟩))
  have hXl := hide (g5.grown)
  have hXlit := hide (g5.grown.alloc (.cells #[] 37))
  have hlit := hide (World.ownsRow_lit (base := g5.val.heap.size) (e := 37) (size := 3) g5.val #[] 0 (Nat.le_refl _) (by decide) rfl)
  have hM := hide hM0
  have hrs := hide hrs0
  have hMq := hide hMq0
  have hx2 := hide hx20
  have hML : Hid (M.length = G.length) := by show _ = _; rw [hGl, ← hM0]; simp [rvs]
  have hM40 : M.length ≤ 40 := by have := hML.out; omega
  obtain ⟨MA, mcap, e9, -, -, -⟩ := rs_form (Sl.own (S := []) hrs0 (by simp))
  subst e9
  clear hM0 hrs0 hMq0 hx20 h1 h2 h3 h4 h5 h6 hGl hrl hel
  go_loopg [9, 11] M.length (fun gh vv i wq => ∃ (k : Nat) (Y : List Ve), i = .int .i64 k ∧ k + gh = M.length ∧ OwnEr wq w.heap.size vv Y ∧ Y.length ≤ k * 1024 ∧ Hid (raGo ws H (G.drop k) (eds Y) = P) ∧ Hid (Apt wq (ob vv) (.slice LA L.length lcap) (.slice MA M.length mcap) L M) ∧ Ext w wq)
  case atStart => exact ⟨0, [], rfl, by omega, ⟨own_base (own_ext hlit.out hx2.out) hXl.out.size, by simp⟩, Nat.le_refl _, hP.out.symm, by
    show Apt _ _ _ _ _ _
    exact Apt.start (hL'.out.ext hXl.out) (Nat.le_refl _) (by simp) (((Ext.refl _).alloc _).trans hx2.out) hrs.out hMq.out, hXlit.out.trans hx2.out⟩
  case round =>
    obtain ⟨k, Y, rfl, hk, ho, hYk, hgo, hap, hX⟩ := hrel
    obtain ⟨wq, hwq⟩ : ∃ wq, wq = wr := ⟨_, rfl⟩
    subst hwq
    have hzX := hX.size
    clear hlit hx2 hXlit hXl hrs hMq
    by_cases hlt : k < M.length
    · obtain ⟨⟨pv, pr⟩, hp⟩ : ∃ p, M[k]? = some p := ⟨_, List.getElem?_eq_getElem hlt⟩
      have hpr : (rowsL (eds L))[k]? = some pr := by rw [← hM.out]; simp [rvs, hp]
      obtain ⟨A9, c9, e9, -, -, hrt⟩ := rs_form hap.out.2.1
      cases e9
      obtain ⟨b', o', rfl, -, hb', j0⟩ := hrt k _ hp
      have hpw := hide (hap.out.2.2 _ (List.mem_of_getElem? hp))
      simp only at j0 hpw
      have hpm := List.mem_of_getElem? hpr
      have hp8 : pr.length ≤ 8 := mayR_len (hvR.out _ hpm)
      have hgk := hGk.out k pr hpr
      have hpi := hqi.out pr hpm
      have hXw := hide hX
      have hj := hide (refJumps_c L pr (.slice LA L.length lcap) pv _ (hap.out.1.less (by simp)) (Sl.less hpw.out (by simp)) (by omega))
      have hpw0 := hide (Sl.less hpw.out (S' := []) (by simp))
      obtain ⟨J, hJ⟩ : ∃ J, J = jmps (eds L) pr := ⟨_, rfl⟩
      have hJm := hmj.out pr
      rw [← hJ] at hj hgk hJm
      obtain ⟨t1, t2⟩ := hpa0.out pr J (hvR.out _ hpm) hJm
      have hpa := hide (fun u1 w' (hX2 : Ext wq w') (hu : Jw w' [] u1 J) => refPartners_c pr ws J R hpi hi hRi hR40 (.slice UA R.length ucap) pv u1 (.slice XA ws.length xcap) w' (Sl.ext hpw0.out hX2) hu (hR'.out.ext (hXw.out.trans hX2)) (Sl.ext hx'.out (hXw.out.trans hX2)))
      rw [t1, t2] at hpa
      have hst := hide (fun (h : woE pr J ws H = 0) => (raGo_step (S := eds Y) hgk h).symm.trans hgo.out)
      have hsp := hide (fun (h : woE pr J ws H ≠ 0) => (raGo_stop (S := eds Y) hgk h).symm.trans hgo.out)
      have hwl := hide (fun (h : woE pr J ws H = 0) => mayJ_len (woR_may h))
      unfold woE woR at hst hwl
      unfold woE at hsp
      obtain ⟨⟨E1, S1⟩, hD1⟩ : ∃ D, D = pGo pr J ws H [] := ⟨_, rfl⟩
      rw [← hD1] at hpa hst hsp hwl
      dsimp only at hpa hst hsp hwl
      have hwh := hide (fun u1 u2 w' (hX2 : Ext wq w') (hu : Jw w' [] u1 J) (hu2 : Jw w' [] u2 S1) => refTwoWh_c J S1 u1 u2 w' hu hu2)
      obtain ⟨E2, hE2⟩ : ∃ E, E = twE whO J S1 := ⟨_, rfl⟩
      obtain ⟨R2, hR2⟩ : ∃ R, R = twR whO J S1 := ⟨_, rfl⟩
      rw [← hE2, ← hR2] at hwh hst hwl
      rw [← hE2] at hsp
      obtain ⟨XA2, xcap2, rfl⟩ := rw_val hpw.out
      obtain ⟨C, ccap, rfl⟩ := own_form ho.1
      have hK := hide (ob_ge ho.1)
      replace ho := hide ho
      haveI : In b' _ := ⟨hb'⟩
      clear hrt hp hpr hJ hJm hgk hpi hpm t1 t2 hD1 hE2 hR2 hgo
      by_cases c1 : E1 = 0
      case neg =>
        have b1 : (E1 != 0) = true := by simpa using c1
        have hPe := hide (hsp.out (by rw [if_neg c1]; exact c1))
        rw [if_neg c1] at hPe
        have hPe := hPe.out
        rw [← hPe] at s1 s2
        have hs1 := hide (show E = E1 by rw [s1.out]; exact if_neg c1)
        have hs2 := hide (show Q = [] by rw [s2.out]; exact if_neg c1)
        clear hst hsp hwh hwl hPe s1 s2 hP hjl c1
        go_wp2_with (first | (go_at_call 19; refine hj.out.mono ?_; rintro ee w3 ⟨v3, rfl, ho3, hx3⟩; have hj3 := hide (own_jw ho3 (S := []) (by simp)); obtain ⟨C3, c3, q3⟩ := own_form ho3; subst q3; have hx3' := hide hx3; have j3 := cell_later hx3 j0; haveI : In b' w3 := ⟨block_lt_of_cell j3⟩; clear ho3 hx3) | (go_at_call 26; refine (hpa.out _ _ hx3'.out hj3.out).mono ?_; rintro ee w4 ⟨v4, rfl, hj4, hx4⟩; have hj4' := hide hj4; have hx34 := hide hx4; have hx4' := hide (hx3'.out.trans hx4); obtain ⟨C4, c4, rfl, -, -, -⟩ := jw_form hj4; clear hj4 hx4))
        go_returns
        first | exact ⟨_, [], by rw [hs1.out]; rfl, by rw [hs2.out]; rfl, OwnEr.nil _ _, hXw.out.trans hx4'.out⟩ | exact ⟨_, by rw [hs1.out]; rfl, [], by rw [hs2.out]; rfl, OwnEr.nil _ _, hXw.out.trans hx4'.out⟩
      subst c1
      rw [if_pos rfl, if_pos rfl] at hst
      rw [if_pos rfl] at hsp
      rw [if_pos rfl, if_pos rfl] at hwl
      by_cases c2 : E2 = 0
      case neg =>
        have b2 : (E2 != 0) = true := by simpa using c2
        have hPe := hsp.out c2
        rw [← hPe] at s1 s2
        have hs1 := hide (show E = E2 by rw [s1.out]; exact if_neg c2)
        have hs2 := hide (show Q = [] by rw [s2.out]; exact if_neg c2)
        clear hst hsp hwl hPe s1 s2 hP hjl c2
        go_wp2_with (first | (go_at_call 19; refine hj.out.mono ?_; rintro ee w3 ⟨v3, rfl, ho3, hx3⟩; have hj3 := hide (own_jw ho3 (S := []) (by simp)); obtain ⟨C3, c3, q3⟩ := own_form ho3; subst q3; have hx3' := hide hx3; have j3 := cell_later hx3 j0; haveI : In b' w3 := ⟨block_lt_of_cell j3⟩; clear ho3 hx3) | (go_at_call 42; refine (hwh.out _ _ _ hx4'.out (Sl.ext hj3.out hx34.out) hj4'.out).mono ?_; rintro ee w5 ⟨v5, rfl, ho5, hx5⟩; have ho5' := hide ho5; have hz4 := hx4'.out.size; have hx5' := hide (hx4'.out.trans hx5); obtain ⟨C5, c5, q5⟩ := own_form ho5; subst q5; have j5 := cell_later hx5'.out j0; haveI : In b' w5 := ⟨block_lt_of_cell j5⟩; clear ho5 hx5) | (go_at_call 26; refine (hpa.out _ _ hx3'.out hj3.out).mono ?_; rintro ee w4 ⟨v4, rfl, hj4, hx4⟩; have hj4' := hide hj4; have hx34 := hide hx4; have hx4' := hide (hx3'.out.trans hx4); obtain ⟨C4, c4, rfl, -, -, -⟩ := jw_form hj4; clear hj4 hx4))
        go_returns
        first | exact ⟨_, [], by rw [hs1.out]; rfl, by rw [hs2.out]; rfl, OwnEr.nil _ _, hXw.out.trans hx5'.out⟩ | exact ⟨_, by rw [hs1.out]; rfl, [], by rw [hs2.out]; rfl, OwnEr.nil _ _, hXw.out.trans hx5'.out⟩
      subst c2
      replace hst := hide (hst.out rfl)
      have hwl := hwl.out rfl
      clear hsp
      go_wp2_with (first | (go_at_call 19; refine hj.out.mono ?_; rintro ee w3 ⟨v3, rfl, ho3, hx3⟩; have hj3 := hide (own_jw ho3 (S := []) (by simp)); obtain ⟨C3, c3, q3⟩ := own_form ho3; subst q3; have hx3' := hide hx3; have j3 := cell_later hx3 j0; haveI : In b' w3 := ⟨block_lt_of_cell j3⟩; clear ho3 hx3) | (go_at_call 44; refine (refPutG_c (ob (.slice C Y.length ccap)) w.heap.size Y pr R2 _ _ _ w5 (ho.out.ext hx5'.out) (Nat.le_trans hzX hx5'.out.size) (fun q hq => by simp [ob, hq]) (Sl.ext hpw.out hx5'.out) (by omega) (Sl.own ho5'.out (fun q hq => by have := (hK.out q hq).2; omega)) (by omega)).mono ?_; rintro ee w6 ⟨v6, N, rfl, hN, ho6, hF6, hb6⟩) | (go_at_call 42; refine (hwh.out _ _ _ hx4'.out (Sl.ext hj3.out hx34.out) hj4'.out).mono ?_; rintro ee w5 ⟨v5, rfl, ho5, hx5⟩; have ho5' := hide ho5; have hz4 := hx4'.out.size; have hx5' := hide (hx4'.out.trans hx5); obtain ⟨C5, c5, q5⟩ := own_form ho5; subst q5; have j5 := cell_later hx5'.out j0; haveI : In b' w5 := ⟨block_lt_of_cell j5⟩; clear ho5 hx5) | (go_at_call 26; refine (hpa.out _ _ hx3'.out hj3.out).mono ?_; rintro ee w4 ⟨v4, rfl, hj4, hx4⟩; have hj4' := hide hj4; have hx34 := hide hx4; have hx4' := hide (hx3'.out.trans hx4); obtain ⟨C4, c4, rfl, -, -, -⟩ := jw_form hj4; clear hj4 hx4))
      go_roundg (M.length - (k + 1))
      case measure => omega
      case rel => exact ⟨k + 1, Y ++ N, by go_num, by omega, ho6, by
        have : N.length = R2.length := by have := congrArg List.length hN; simpa [eds] using this
        rw [List.length_append]; omega, by show raGo _ _ _ _ = _; rw [eds_app, hN]; exact hst.out, (hap.out.ext hx5'.out).put hF6 hb6, ext_fr (hX.trans hx5'.out) hF6 (fun b hb => (hK.out b hb).1)⟩
    · have hge : (M.length : Int) ≤ k := by omega
      have hkM : k = M.length := by omega
      have hfin := hgo.out
      rw [List.drop_eq_nil_of_le (by have := hML.out; omega)] at hfin
      have hP1 : P = (0, eds Y) := hfin.symm
      have hs1 := s1.out
      have hs2 := s2.out
      have hj2 := hjl.out
      rw [hP1] at hs1 hs2 hj2
      rw [if_pos rfl] at hs1 hs2
      have hYl : Y.length ≤ 100000 := by rw [hkM] at hYk; omega
      have hno := hide (fun w' (hX2 : Ext wq w') => refEdgeNormB_c Y hYl (hj2 rfl) _ w' (ho.ew.ext hX2))
      rw [← hs1, ← hs2] at hno
      obtain ⟨C, ccap, rfl⟩ := own_form ho.1
      clear hfin hP1 hs1 hs2 hj2 hgo hap ho s1 s2 hjl hP hkM hYk
      go_wp2_with (go_at_call 45; refine (hno.out _ (Ext.refl _)).mono ?_; rintro ee w8 ⟨v8, N, rfl, hN, ho8, hX8⟩; have ho8' := hide ho8; obtain ⟨C8, c8, rfl⟩ := own_form ho8.1; clear ho8)
      go_returns
      first | exact ⟨_, N, rfl, hN, ho8'.out.lower hzX, hX.trans hX8⟩ | exact ⟨_, rfl, N, hN, ho8'.out.lower hzX, hX.trans hX8⟩
end Go.Proofs.YtljkneajdndgjabGreat
