/-
  A helper of ours: no claim of its own. Layer 10 (edge): the norm of more edges than 1,024, by the document.
-/
import Derived.Test.YtljkneajdndgjabGreatEdgNd
set_option linter.unusedVariables false
set_option linter.unusedSimpArgs false
namespace Go.Proofs.YtljkneajdndgjabGreat
open Go.RowKit
attribute [local go_sem] GW.cell GW.frozen In.eq_true In.le_true In.ne In.ne' In.ne_add In.ne_add' In.lt_add Upto.le_true Upto.le_add Upto.lt_add
set_option maxHeartbeats 8000000 in
set_option maxRecDepth 100000 in
theorem refEdgeNormB_c (L : List Ve) (hL : L.length ≤ 100000) (hJl : ∀ r, (jmps (eds L) r).length ≤ 1024) (v : Value) (w : World) (hC0 : Ew w [] v L) : Calls Tryz.prog 45 #[v] w fun e w' => ∃ v' M, e = .returned (.tuple #[v', .int .i64 (neE (eds L))]) ∧ eds M = neR (eds L) ∧ OwnEr w' w.heap.size v' M ∧ Ext w w' := by
  obtain ⟨A, cap, rfl, hlc, hlm, hat⟩ := ew_form hC0
  unfold maxLen at hlm
  have hC := hide hC0
  have hrl := hide hC0.2
  replace hat := hide hat
  obtain ⟨E, hE⟩ : ∃ E, E = neE (eds L) := ⟨_, rfl⟩
  obtain ⟨R, hR⟩ : ∃ R, R = neR (eds L) := ⟨_, rfl⟩
  rw [← hE, ← hR]
  have hE2 : Hid ((eds L).any badE = true → E = 2 ∧ R = []) := fun h => by
    have : neE (eds L) = 2 := by unfold neE; rw [if_pos h]
    exact ⟨hE.trans this, hR.trans (neR_bad (by rw [this]; decide))⟩
  have hE13 : Hid ((eds L).any badE = false → (eds L).any (fun e => nowJ e.2) = true → E = 13 ∧ R = []) := fun h h' => by
    have : neE (eds L) = 13 := by unfold neE; rw [if_neg (by rw [h]; decide), if_pos h']
    exact ⟨hE.trans this, hR.trans (neR_bad (by rw [this]; decide))⟩
  have hE0 : Hid ((eds L).any badE = false → (eds L).any (fun e => nowJ e.2) = false → E = eachE nmOp (byRows (eds L)) ∧ R = eachR nmOp (byRows (eds L))) := fun h h' => by
    have e1 : neE (eds L) = eachE nmOp (byRows (eds L)) := by unfold neE; rw [if_neg (by rw [h]; decide), if_neg (by rw [h']; decide)]
    refine ⟨hE.trans e1, hR.trans ?_⟩
    unfold neR
    split
    · rfl
    · rename_i h2; unfold eachR; rw [if_neg (by rw [← e1]; exact h2)]
  have hvb : Hid ((eds L).any badE = false → ∀ e ∈ eds L, mayR e.1 = true) := fun h e he => by
    have := List.any_eq_false.1 h e he
    unfold badE at this
    cases hm : mayR e.1
    · rw [hm] at this; simp at this
    · rfl
  clear hE hR hC0
  go_enter Tryz.func45, Tryz.ntmps45
  go_wp2_with fail
  go_loopg [4] L.length (fun gh i wr => ∃ (k : Nat), i = .int .i64 k ∧ k + gh = L.length ∧ Hid (((eds L).take k).any badE = false) ∧ Ext w wr)
  case atStart => exact ⟨0, rfl, by omega, rfl, Ext.refl w⟩
  case round =>
    obtain ⟨k, rfl, hk, hno, hX⟩ := hrel
    by_cases hlt : k < L.length
    · obtain ⟨⟨xv, xr, xa, xn⟩, hx⟩ : ∃ x, L[k]? = some x := ⟨_, List.getElem?_eq_getElem hlt⟩
      obtain ⟨b, o, rfl, -, hbl, c0, c1, c2⟩ := hat.out k _ hx
      have k0 := cell_later hX c0
      have k2 := cell_later hX c2
      have hbr : b < wr.heap.size := block_lt_of_cell k0
      have hxe : (eds L)[k]? = some (xr, (xa, xn)) := by simp [eds, hx]
      have hrx := Sl.ext (hrl.out _ (List.mem_of_getElem? hx)) hX
      simp only at k0 k2 hrx
      have h1 := hide (refRowMay_c xr xv wr hrx)
      obtain ⟨XA, xcap, rfl⟩ := rw_val hrx
      have hbd : badE (xr, (xa, xn)) = (!mayR xr || tooJ (xa, xn)) := rfl
      haveI : In b wr := ⟨hbr⟩
      clear hrx c0 c1 c2 hx
      cases hm : mayR xr
      · rw [hm] at h1 hbd
        have hf := hide (hE2.out (anyY hxe (by rw [hbd]; rfl)))
        clear hbd hxe hE2 hE13 hE0
        go_wp2_with (go_at_call 47; (with_reducible refine seq_gw h1.out ?_); intro g)
        go_returns
        first | exact ⟨_, [], by rw [hf.out.1]; rfl, by rw [hf.out.2]; rfl, OwnEr.nil _ _, hX.trans g.grown⟩ | exact ⟨_, by rw [hf.out.1]; rfl, [], by rw [hf.out.2]; rfl, OwnEr.nil _ _, hX.trans g.grown⟩
      rw [hm] at h1 hbd
      rw [Bool.not_true, Bool.false_or] at hbd
      by_cases hg1 : 1048576 < xn
      · have hf := hide (hE2.out (anyY hxe (by rw [hbd]; unfold tooJ; rw [decide_eq_true_iff]; exact .inl hg1)))
        clear hbd hxe hE2 hE13 hE0
        go_wp2_with (go_at_call 47; (with_reducible refine seq_gw h1.out ?_); intro g)
        go_returns
        first | exact ⟨_, [], by rw [hf.out.1]; rfl, by rw [hf.out.2]; rfl, OwnEr.nil _ _, hX.trans g.grown⟩ | exact ⟨_, by rw [hf.out.1]; rfl, [], by rw [hf.out.2]; rfl, OwnEr.nil _ _, hX.trans g.grown⟩
      have d1 : decide (1048576 < xn) = false := by rw [decide_eq_false_iff_not]; exact hg1
      by_cases hg2 : xn < -1048576
      · have hf := hide (hE2.out (anyY hxe (by rw [hbd]; unfold tooJ; rw [decide_eq_true_iff]; exact .inr hg2)))
        clear hbd hxe hE2 hE13 hE0
        go_wp2_with (go_at_call 47; (with_reducible refine seq_gw h1.out ?_); intro g)
        go_returns
        first | exact ⟨_, [], by rw [hf.out.1]; rfl, by rw [hf.out.2]; rfl, OwnEr.nil _ _, hX.trans g.grown⟩ | exact ⟨_, by rw [hf.out.1]; rfl, [], by rw [hf.out.2]; rfl, OwnEr.nil _ _, hX.trans g.grown⟩
      have d2 : decide (xn < -1048576) = false := by rw [decide_eq_false_iff_not]; exact hg2
      have hn2 : Hid (((eds L).take (k + 1)).any badE = false) := anyT hno.out hxe (by rw [hbd]; unfold tooJ; rw [decide_eq_false_iff_not]; omega)
      clear hbd hxe
      go_wp2_with (go_at_call 47; (with_reducible refine seq_gw h1.out ?_); intro g)
      go_roundg (L.length - (k + 1))
      case measure => omega
      case rel => exact ⟨k + 1, by go_num, by omega, hn2, hX.trans g.grown⟩
    · have hk' : k = L.length := by omega
      have hge : (L.length : Int) ≤ k := by omega
      have hall : (eds L).any badE = false := by have := hno.out; rwa [List.take_of_length_le (by simp [eds]; omega)] at this
      replace hE13 := hide (hE13.out hall)
      replace hE0 := hide (hE0.out hall)
      have hvE := hide (hvb.out hall)
      replace hk' := hide hk'
      clear hall hno hE2 hvb
      go_wp2_with fail
      go_loopg [5] L.length (fun gh i wr => ∃ (k : Nat), i = .int .i64 k ∧ k + gh = L.length ∧ Hid (((eds L).take k).any (fun e => nowJ e.2) = false) ∧ Ext w wr)
      case atStart => exact ⟨0, rfl, by omega, rfl, hX⟩
      case round =>
        clear hge hk'
        clear hX
        obtain ⟨k, rfl, hk, hno, hX⟩ := hrel
        obtain ⟨wo, hwo⟩ : ∃ wo, wo = wr := ⟨_, rfl⟩
        subst hwo
        by_cases hlt : k < L.length
        · obtain ⟨⟨xv, xr, xa, xn⟩, hx⟩ : ∃ x, L[k]? = some x := ⟨_, List.getElem?_eq_getElem hlt⟩
          obtain ⟨b, o, rfl, -, hbl, c0, c1, c2⟩ := hat.out k _ hx
          have k1 := cell_later hX c1
          have hbr : b < _ := block_lt_of_cell k1
          have hxe : (eds L)[k]? = some (xr, (xa, xn)) := by simp [eds, hx]
          simp only at k1
          haveI : In b _ := ⟨hbr⟩
          clear c0 c1 c2 hx
          by_cases hg1 : xa < -1
          · have hf := hide (hE13.out (anyY (p := fun e => nowJ e.2) hxe (by unfold nowJ; rw [decide_eq_true_iff]; exact .inl hg1)))
            clear hxe hE13 hE0
            go_wp2_with fail
            go_returns
            first | exact ⟨_, [], by rw [hf.out.1]; rfl, by rw [hf.out.2]; rfl, OwnEr.nil _ _, hX⟩ | exact ⟨_, by rw [hf.out.1]; rfl, [], by rw [hf.out.2]; rfl, OwnEr.nil _ _, hX⟩
          have d1 : decide (xa < -1) = false := by rw [decide_eq_false_iff_not]; exact hg1
          by_cases hg2 : 1125899906842624 < xa
          · have hf := hide (hE13.out (anyY (p := fun e => nowJ e.2) hxe (by unfold nowJ; rw [decide_eq_true_iff]; exact .inr hg2)))
            clear hxe hE13 hE0
            go_wp2_with fail
            go_returns
            first | exact ⟨_, [], by rw [hf.out.1]; rfl, by rw [hf.out.2]; rfl, OwnEr.nil _ _, hX⟩ | exact ⟨_, by rw [hf.out.1]; rfl, [], by rw [hf.out.2]; rfl, OwnEr.nil _ _, hX⟩
          have d2 : decide (1125899906842624 < xa) = false := by rw [decide_eq_false_iff_not]; exact hg2
          have hn2 : Hid (((eds L).take (k + 1)).any (fun e => nowJ e.2) = false) := anyT hno.out hxe (by unfold nowJ; rw [decide_eq_false_iff_not]; simp only; omega)
          clear hxe
          go_wp2_with fail
          go_roundg (L.length - (k + 1))
          case measure => omega
          case rel => exact ⟨k + 1, by go_num, by omega, hn2, hX⟩
        · have hk' : k = L.length := by omega
          have hge : (L.length : Int) ≤ k := by omega
          have hall : (eds L).any (fun e => nowJ e.2) = false := by have := hno.out; rwa [List.take_of_length_le (by simp [eds]; omega)] at this
          replace hE0 := hide (hE0.out hall)
          replace hk' := hide hk'
          clear hall hno hE13
          have hvR : Hid (∀ r ∈ rowsL (eds L), mayR r = true) := fun r hr => by
            obtain ⟨e, he, rfl⟩ := ((rowsL_ok hvE.out).2 r).1 hr
            exact hvE.out e he
          have hrows := hide (fun w' (hX : Ext w w') => refRows_c L (.slice A L.length cap) w' (hC.out.ext hX) hvE.out (by omega))
          have hXl := hide (hX)
          have hXlit := hide (hX.alloc (.cells #[] 37))
          have hlit := hide (World.ownsRow_lit (base := wo.heap.size) (e := 37) (size := 3) wo #[] 0 (Nat.le_refl _) (by decide) rfl)
          go_wp2_with (go_at_call 41; refine (hrows.out _ (hX.alloc _)).mono ?_; rintro ee w2 ⟨rv, M, rfl, hM0, hrs0, hMq0, hx20⟩)
          have hM := hide hM0
          have hrs := hide hrs0
          have hMq := hide hMq0
          have hx2 := hide hx20
          have hML : Hid (M.length ≤ 100000) := by
            show _ ≤ _
            have h1 := rowsL_len (eds L) hvE.out
            rw [← hM0] at h1
            simp only [rvs, eds, List.length_map] at h1
            omega
          obtain ⟨RA, rcap, e9, -, -, -⟩ := rs_form (Sl.own (S := []) hrs0 (by simp))
          subst e9
          have hEd : Hid (∀ k acc, Evs nmOp (eds L) k acc → M.length ≤ k → (4096 < acc.length → E = 7 ∧ R = []) ∧ (¬ 4096 < acc.length → E = 0 ∧ R = acc)) := fun k acc h hk => by
            rw [hE0.out.1, hE0.out.2]
            exact h.done (by rw [← hM.out]; simpa [rvs] using hk)
          have hEb : Hid (∀ k acc r, Evs nmOp (eds L) k acc → (rowsL (eds L))[k]? = some r → (nmOp (jmps (eds L) r)).1 ≠ 0 → E = (nmOp (jmps (eds L) r)).1 ∧ R = []) := fun k acc r h hr h0 => by
            rw [hE0.out.1, hE0.out.2]
            exact h.bad hr h0
          clear hM0 hrs0 hMq0 hx20
          go_loopg [6, 8] M.length (fun gh vv i wq => ∃ (k : Nat) (Y : List Ve), i = .int .i64 k ∧ k + gh = M.length ∧ OwnEr wq w.heap.size vv Y ∧ Y.length ≤ k * 1024 ∧ Hid (Evs nmOp (eds L) k (eds Y)) ∧ Hid (Apt wq (ob vv) (.slice A L.length cap) (.slice RA M.length rcap) L M) ∧ Ext w wq)
          case atStart => exact ⟨0, [], rfl, by omega, ⟨own_base (own_ext hlit.out hx2.out) hXl.out.size, by simp⟩, Nat.le_refl _, Evs.zero _ _, by
            show Apt _ _ _ _ _ _
            exact Apt.start (hC.out.ext hXl.out) (Nat.le_refl _) (by simp) (((Ext.refl _).alloc _).trans hx2.out) hrs.out hMq.out, hXlit.out.trans hx2.out⟩
          case round =>
            obtain ⟨k, Y, rfl, hk, ho, hYk, hev, hap, hX⟩ := hrel
            obtain ⟨wq, hwq⟩ : ∃ wq, wq = wr := ⟨_, rfl⟩
            subst hwq
            have hzX := hX.size
            have hML2 := hML.out
            clear hlit hx2 hXlit hXl hrs hMq
            by_cases hlt : k < M.length
            · obtain ⟨⟨pv, pr⟩, hp⟩ : ∃ p, M[k]? = some p := ⟨_, List.getElem?_eq_getElem hlt⟩
              have hpr : (rowsL (eds L))[k]? = some pr := by rw [← hM.out]; simp [rvs, hp]
              obtain ⟨A9, c9, e9, -, -, hrt⟩ := rs_form hap.out.2.1
              cases e9
              obtain ⟨b', o', rfl, -, hb', d0⟩ := hrt k _ hp
              have hpw := hide (hap.out.2.2 _ (List.mem_of_getElem? hp))
              simp only at d0 hpw
              have hp8 : pr.length ≤ 8 := mayR_len (hvR.out _ (List.mem_of_getElem? hpr))
              have hj := hide (refJumps_c L pr (.slice A L.length cap) pv _ (hap.out.1.less (by simp)) (Sl.less hpw.out (by simp)) (by omega))
              have hjl : (jmps (eds L) pr).length ≤ 1024 := hJl pr
              have hopl := nmOp_len (jmps (eds L) pr)
              have hbadE := hide (hEb.out k (eds Y) pr hev.out hpr)
              have hevn : Hid ((nmOp (jmps (eds L) pr)).1 = 0 → Evs nmOp (eds L) (k + 1) (eds Y ++ (nmOp (jmps (eds L) pr)).2.map fun j => (pr, j))) := fun h => hev.out.next hpr h
              obtain ⟨J, hJ⟩ : ∃ J, J = jmps (eds L) pr := ⟨_, rfl⟩
              rw [← hJ] at hj hjl hopl hbadE hevn
              have hop := hide (fun x w' hf => refNorm_c J hjl x w' hf)
              simp only [nmOp] at hopl hbadE hevn
              obtain ⟨XA, xcap, rfl⟩ := rw_val hpw.out
              obtain ⟨C, ccap, rfl⟩ := own_form ho.1
              have hK := hide (ob_ge ho.1)
              replace ho := hide ho
              replace hev := hide hev
              haveI : In b' _ := ⟨hb'⟩
              clear hrt hp hpr hJ
              by_cases he : nmE J = 0
              · rw [he] at hop
                replace hevn := hide (hevn.out he)
                replace he := hide he
                go_wp2_with (first
                  | (go_at_call 19; refine hj.out.mono ?_; rintro ee w3 ⟨v3, rfl, ho3, hx3⟩; have hf3 := hide (Sl.own (S := []) ho3 (by simp)); obtain ⟨C3, c3, q3⟩ := own_form ho3; subst q3; have k3 := cell_later hx3 d0; have hb3 : b' < w3.heap.size := block_lt_of_cell k3)
                  | (go_at_call 88; refine (hop.out _ _ hf3.out).mono ?_; rintro ee w4 ⟨v4, rfl, ho4, hx34⟩; have hx4 := hx3.trans hx34; replace hx34 := hx3.size; obtain ⟨C4, c4, q4⟩ := own_form ho4; subst q4; have k4 := cell_later hx4 d0; have hb4 : b' < w4.heap.size := block_lt_of_cell k4)
                  | (go_at_call 44; refine (refPutG_c (ob (.slice C Y.length ccap)) w.heap.size Y pr (nmR J) _ _ _ w4 (ho.out.ext hx4) (Nat.le_trans hzX hx4.size) (fun q hq => by simp [ob, hq]) (Sl.ext hpw.out hx4) (by omega) (Sl.own ho4 (fun q hq => by have := (hK.out q hq).2; have := hx34; omega)) (by omega)).mono ?_; rintro ee w5 ⟨v5, N, rfl, hN, ho5, hF5, hb5⟩))
                go_roundg (M.length - (k + 1))
                case measure => omega
                case rel => exact ⟨k + 1, Y ++ N, by go_num, by omega, ho5, by
                  have : N.length = (nmR J).length := by have := congrArg List.length hN; simpa [eds] using this
                  rw [List.length_append]; omega, by show Evs _ _ _ _; rw [eds_app, hN]; exact hevn.out, (hap.out.ext hx4).put hF5 hb5, ext_fr (hX.trans hx4) hF5 (fun b hb => (hK.out b hb).1)⟩
              · replace hbadE := hide (hbadE.out he)
                have bne : (nmE J != 0) = true := by rw [bne_iff_ne]; exact he
                clear hevn
                go_wp2_with (first
                  | (go_at_call 19; refine hj.out.mono ?_; rintro ee w3 ⟨v3, rfl, ho3, hx3⟩; have hf3 := hide (Sl.own (S := []) ho3 (by simp)); obtain ⟨C3, c3, q3⟩ := own_form ho3; subst q3; have k3 := cell_later hx3 d0; have hb3 : b' < w3.heap.size := block_lt_of_cell k3)
                  | (go_at_call 88; refine (hop.out _ _ hf3.out).mono ?_; rintro ee w4 ⟨v4, rfl, ho4, hx34⟩; have hx4 := hx3.trans hx34; replace hx34 := hx3.size; obtain ⟨C4, c4, q4⟩ := own_form ho4; subst q4; have k4 := cell_later hx4 d0; have hb4 : b' < w4.heap.size := block_lt_of_cell k4))
                go_returns
                first | exact ⟨_, [], by rw [hbadE.out.1]; rfl, by rw [hbadE.out.2]; rfl, OwnEr.nil _ _, hX.trans hx4⟩ | exact ⟨_, by rw [hbadE.out.1]; rfl, [], by rw [hbadE.out.2]; rfl, OwnEr.nil _ _, hX.trans hx4⟩
            · have hge : (M.length : Int) ≤ k := by omega
              have hd := hEd.out k (eds Y) hev.out (by omega)
              rw [show (eds Y).length = Y.length by simp [eds]] at hd
              have hdh := hide hd
              clear hd
              obtain ⟨C, ccap, rfl⟩ := own_form ho.1
              by_cases hbig : 4096 < Y.length
              · have hf := hide (hdh.out.1 hbig)
                have hbI : (4096 : Int) < Y.length := by omega
                go_wp2_with fail
                go_returns
                first | exact ⟨_, [], by rw [hf.out.1]; rfl, by rw [hf.out.2]; rfl, OwnEr.nil _ _, hX⟩ | exact ⟨_, by rw [hf.out.1]; rfl, [], by rw [hf.out.2]; rfl, OwnEr.nil _ _, hX⟩
              · have hf := hide (hdh.out.2 hbig)
                have hbI : ¬ (4096 : Int) < Y.length := by omega
                replace ho := hide ho
                go_wp2_with fail
                go_returns
                first | exact ⟨_, Y, by rw [hf.out.1]; rfl, by rw [hf.out.2], ho.out, hX⟩ | exact ⟨_, by rw [hf.out.1]; rfl, Y, by rw [hf.out.2], ho.out, hX⟩
end Go.Proofs.YtljkneajdndgjabGreat
