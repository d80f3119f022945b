/-
  A helper of ours: no claim of its own. Layer 10 (edge): what is made of each row's function, by the document.
-/
import Derived.Test.YtobmjcehgpmfgaaGreatEdgNd
import Derived.Test.YtobmjcehgpmfgaaGreatEdgMy
import Derived.Test.YtobmjcehgpmfgaaGreatEdgGs
import Derived.Test.YtobmjcehgpmfgaaGreatStepY1
import Derived.Test.YtobmjcehgpmfgaaGreatStepY3
set_option linter.unusedVariables false
set_option linter.unusedSimpArgs false
namespace Go.Proofs.YtobmjcehgpmfgaaGreat
open Go.RowKit
attribute [local go_sem] GW.cell GW.frozen In.eq_true In.le_true In.ne In.ne' In.ne_add In.ne_add' In.lt_add Upto.le_true Upto.le_add Upto.lt_add
set_option maxHeartbeats 8000000 in
set_option maxRecDepth 100000 in
theorem refMapNeg_c (L : List Ve) (t : Int) (hL : L.length ≤ 1024) (v : Value) (w : World) (hC0 : Ew w [] v L) : Calls Tryz.prog 81 #[v, .int .i64 0, .int .i64 t] w fun e w' => ∃ v' M, e = .returned (.tuple #[v', .int .i64 (mpE ngOp (eds L))]) ∧ eds M = mpR ngOp (eds L) ∧ OwnEr w' w.heap.size v' M ∧ Ext w w' := by
  have h1 := hide (refEdgeMay_c L v w hC0)
  obtain ⟨A, cap, rfl, hlc, hlm, -⟩ := ew_form hC0
  unfold maxLen at hlm
  have hC := hide hC0
  obtain ⟨E, hE⟩ : ∃ E, E = mpE ngOp (eds L) := ⟨_, rfl⟩
  obtain ⟨R, hR⟩ : ∃ R, R = mpR ngOp (eds L) := ⟨_, rfl⟩
  rw [← hE, ← hR]
  unfold mpE at hE
  unfold mpR at hR
  clear hC0
  cases ha : mayE (eds L)
  · rw [ha, if_neg (by decide)] at hE hR
    rw [ha] at h1
    subst hE
    replace hR := hide hR
    go_enter Tryz.func81, Tryz.ntmps81
    go_wp2_with (go_at_call 77; (with_reducible refine seq_gw h1.out ?_); intro g)
    go_returns
    exact ⟨_, [], rfl, by rw [hR.out]; rfl, OwnEr.nil _ _, g.grown⟩
  rw [ha, if_pos rfl, grp_eq (mayE_rise ha)] at hE hR
  rw [ha] at h1
  have hvE := hide (mayE_rise ha).1
  have hE0 := hide (And.intro hE hR)
  clear hE hR ha
  have hvR : Hid (∀ r ∈ rowsL (eds L), mayR r = true) := fun r hr => by
    obtain ⟨e, he, rfl⟩ := ((rowsL_ok hvE.out).2 r).1 hr
    exact hvE.out e he
  have hrows := hide (fun w' (hX : Ext w w') => refRows_c L (.slice A L.length cap) w' (hC.out.ext hX) hvE.out (by omega))
  go_enter Tryz.func81, Tryz.ntmps81
  go_wp2_with (first | (go_at_call 77; (with_reducible refine seq_gw h1.out ?_); intro g) | (go_at_call 87; refine (hrows.out _ (g.grown.alloc _)).mono ?_; rintro ee w2 ⟨rv, M, rfl, hM0, hrs0, hMq0, hx20⟩))
  have hXl := hide (g.grown)
  have hXlit := hide (g.grown.alloc (.cells #[] 115))
  have hlit := hide (World.ownsRow_lit (base := g.val.heap.size) (e := 115) (size := 3) g.val #[] 0 (Nat.le_refl _) (by decide) rfl)
  have hM := hide hM0
  have hrs := hide hrs0
  have hMq := hide hMq0
  have hx2 := hide hx20
  have hML : Hid (M.length ≤ 1024) := by
    show _ ≤ _
    have h1 := rowsL_len (eds L) hvE.out
    rw [← hM0] at h1
    simp only [rvs, eds, List.length_map] at h1
    omega
  obtain ⟨RA, rcap, e9, -, -, -⟩ := rs_form (Sl.own (S := []) hrs0 (by simp))
  subst e9
  have hEd : Hid (∀ k acc, Evs ngOp (eds L) k acc → M.length ≤ k → (4096 < acc.length → E = 7 ∧ R = []) ∧ (¬ 4096 < acc.length → E = 0 ∧ R = acc)) := fun k acc h hk => by
    rw [hE0.out.1, hE0.out.2]
    exact h.done (by rw [← hM.out]; simpa [rvs] using hk)
  have hEb : Hid (∀ k acc r, Evs ngOp (eds L) k acc → (rowsL (eds L))[k]? = some r → (ngOp (jmps (eds L) r)).1 ≠ 0 → E = (ngOp (jmps (eds L) r)).1 ∧ R = []) := fun k acc r h hr h0 => by
    rw [hE0.out.1, hE0.out.2]
    exact h.bad hr h0
  clear hM0 hrs0 hMq0 hx20
  go_loopg [8, 10] M.length (fun gh vv i wq => ∃ (k : Nat) (Y : List Ve), i = .int .i64 k ∧ k + gh = M.length ∧ OwnEr wq w.heap.size vv Y ∧ Y.length ≤ k * 1024 ∧ Hid (Evs ngOp (eds L) k (eds Y)) ∧ Hid (Apt wq (ob vv) (.slice A L.length cap) (.slice RA M.length rcap) L M) ∧ Ext w wq)
  case atStart => exact ⟨0, [], rfl, by omega, ⟨own_base (own_ext hlit.out hx2.out) hXl.out.size, by simp⟩, Nat.le_refl _, Evs.zero _ _, by
    show Apt _ _ _ _ _ _
    exact Apt.start (hC.out.ext hXl.out) (Nat.le_refl _) (by simp) (((Ext.refl _).alloc _).trans hx2.out) hrs.out hMq.out, hXlit.out.trans hx2.out⟩
  case round =>
    obtain ⟨k, Y, rfl, hk, ho, hYk, hev, hap, hX⟩ := hrel
    obtain ⟨wq, hwq⟩ : ∃ wq, wq = wr := ⟨_, rfl⟩
    subst hwq
    have hzX := hX.size
    have hML2 := hML.out
    clear hlit hx2 hXlit hXl hrs hMq
    by_cases hlt : k < M.length
    · obtain ⟨⟨pv, pr⟩, hp⟩ : ∃ p, M[k]? = some p := ⟨_, List.getElem?_eq_getElem hlt⟩
      have hpr : (rowsL (eds L))[k]? = some pr := by rw [← hM.out]; simp [rvs, hp]
      obtain ⟨A9, c9, e9, -, -, hrt⟩ := rs_form hap.out.2.1
      cases e9
      obtain ⟨b', o', rfl, -, hb', d0⟩ := hrt k _ hp
      have hpw := hide (hap.out.2.2 _ (List.mem_of_getElem? hp))
      simp only at d0 hpw
      have hp8 : pr.length ≤ 8 := mayR_len (hvR.out _ (List.mem_of_getElem? hpr))
      have hj := hide (refJumps_c L pr (.slice A L.length cap) pv _ (hap.out.1.less (by simp)) (Sl.less hpw.out (by simp)) (by omega))
      have hjl : (jmps (eds L) pr).length ≤ 1024 := Nat.le_trans (jmps_le _ _) (by simp only [eds, List.length_map]; omega)
      have hopl := ngOp_len (jmps (eds L) pr)
      have hbadE := hide (hEb.out k (eds Y) pr hev.out hpr)
      have hevn : Hid ((ngOp (jmps (eds L) pr)).1 = 0 → Evs ngOp (eds L) (k + 1) (eds Y ++ (ngOp (jmps (eds L) pr)).2.map fun j => (pr, j))) := fun h => hev.out.next hpr h
      obtain ⟨J, hJ⟩ : ∃ J, J = jmps (eds L) pr := ⟨_, rfl⟩
      rw [← hJ] at hj hjl hopl hbadE hevn
      have hop := hide (fun x w' hf => refNeg_c J x w' hf)
      simp only [ngOp] at hopl hbadE hevn
      obtain ⟨XA, xcap, rfl⟩ := rw_val hpw.out
      obtain ⟨C, ccap, rfl⟩ := own_form ho.1
      have hK := hide (ob_ge ho.1)
      replace ho := hide ho
      replace hev := hide hev
      haveI : In b' _ := ⟨hb'⟩
      clear hrt hp hpr hJ
      by_cases he : ngE J = 0
      · rw [he] at hop
        replace hevn := hide (hevn.out he)
        replace he := hide he
        go_wp2_with (first
          | (go_at_call 29; refine hj.out.mono ?_; rintro ee w3 ⟨v3, rfl, ho3, hx3⟩; have hf3 := hide (Sl.own (S := []) ho3 (by simp)); obtain ⟨C3, c3, q3⟩ := own_form ho3; subst q3; have k3 := cell_later hx3 d0; have hb3 : b' < w3.heap.size := block_lt_of_cell k3)
          | (go_at_call 150; refine (hop.out _ _ hf3.out).mono ?_; rintro ee w4 ⟨v4, rfl, ho4, hx34⟩; have hx4 := hx3.trans hx34; replace hx34 := hx3.size; obtain ⟨C4, c4, q4⟩ := own_form ho4; subst q4; have k4 := cell_later hx4 d0; have hb4 : b' < w4.heap.size := block_lt_of_cell k4)
          | (go_at_call 153; refine (refPutG_c (ob (.slice C Y.length ccap)) w.heap.size Y pr (ngR J) _ _ _ w4 (ho.out.ext hx4) (Nat.le_trans hzX hx4.size) (fun q hq => by simp [ob, hq]) (Sl.ext hpw.out hx4) (by omega) (Sl.own ho4 (fun q hq => by have := (hK.out q hq).2; have := hx34; omega)) (by omega)).mono ?_; rintro ee w5 ⟨v5, N, rfl, hN, ho5, hF5, hb5⟩))
        go_roundg (M.length - (k + 1))
        case measure => omega
        case rel => exact ⟨k + 1, Y ++ N, by go_num, by omega, ho5, by
          have : N.length = (ngR J).length := by have := congrArg List.length hN; simpa [eds] using this
          rw [List.length_append]; omega, by show Evs _ _ _ _; rw [eds_app, hN]; exact hevn.out, (hap.out.ext hx4).put hF5 hb5, ext_fr (hX.trans hx4) hF5 (fun b hb => (hK.out b hb).1)⟩
      · replace hbadE := hide (hbadE.out he)
        have bne : (ngE J != 0) = true := by rw [bne_iff_ne]; exact he
        clear hevn
        go_wp2_with (first
          | (go_at_call 29; refine hj.out.mono ?_; rintro ee w3 ⟨v3, rfl, ho3, hx3⟩; have hf3 := hide (Sl.own (S := []) ho3 (by simp)); obtain ⟨C3, c3, q3⟩ := own_form ho3; subst q3; have k3 := cell_later hx3 d0; have hb3 : b' < w3.heap.size := block_lt_of_cell k3)
          | (go_at_call 150; refine (hop.out _ _ hf3.out).mono ?_; rintro ee w4 ⟨v4, rfl, ho4, hx34⟩; have hx4 := hx3.trans hx34; replace hx34 := hx3.size; obtain ⟨C4, c4, q4⟩ := own_form ho4; subst q4; have k4 := cell_later hx4 d0; have hb4 : b' < w4.heap.size := block_lt_of_cell k4))
        go_returns
        first | exact ⟨_, [], by rw [hbadE.out.1]; rfl, by rw [hbadE.out.2]; rfl, OwnEr.nil _ _, hX.trans hx4⟩ | exact ⟨_, by rw [hbadE.out.1]; rfl, [], by rw [hbadE.out.2]; rfl, OwnEr.nil _ _, hX.trans hx4⟩
    · have hge : (M.length : Int) ≤ k := by omega
      have hd := hEd.out k (eds Y) hev.out (by omega)
      rw [show (eds Y).length = Y.length by simp [eds]] at hd
      have hdh := hide hd
      clear hd
      obtain ⟨C, ccap, rfl⟩ := own_form ho.1
      by_cases hbig : 4096 < Y.length
      · have hf := hide (hdh.out.1 hbig)
        have hbI : (4096 : Int) < Y.length := by omega
        go_wp2_with fail
        go_returns
        first | exact ⟨_, [], by rw [hf.out.1]; rfl, by rw [hf.out.2]; rfl, OwnEr.nil _ _, hX⟩ | exact ⟨_, by rw [hf.out.1]; rfl, [], by rw [hf.out.2]; rfl, OwnEr.nil _ _, hX⟩
      · have hf := hide (hdh.out.2 hbig)
        have hbI : ¬ (4096 : Int) < Y.length := by omega
        replace ho := hide ho
        go_wp2_with fail
        go_returns
        first | exact ⟨_, Y, by rw [hf.out.1]; rfl, by rw [hf.out.2], ho.out, hX⟩ | exact ⟨_, by rw [hf.out.1]; rfl, Y, by rw [hf.out.2], ho.out, hX⟩
set_option maxHeartbeats 8000000 in
set_option maxRecDepth 100000 in
theorem refMapAhead_c (L : List Ve) (t : Int) (hL : L.length ≤ 1024) (v : Value) (w : World) (hC0 : Ew w [] v L) : Calls Tryz.prog 81 #[v, .int .i64 1, .int .i64 t] w fun e w' => ∃ v' M, e = .returned (.tuple #[v', .int .i64 (mpE (ahOp t) (eds L))]) ∧ eds M = mpR (ahOp t) (eds L) ∧ OwnEr w' w.heap.size v' M ∧ Ext w w' := by
  have h1 := hide (refEdgeMay_c L v w hC0)
  obtain ⟨A, cap, rfl, hlc, hlm, -⟩ := ew_form hC0
  unfold maxLen at hlm
  have hC := hide hC0
  obtain ⟨E, hE⟩ : ∃ E, E = mpE (ahOp t) (eds L) := ⟨_, rfl⟩
  obtain ⟨R, hR⟩ : ∃ R, R = mpR (ahOp t) (eds L) := ⟨_, rfl⟩
  rw [← hE, ← hR]
  unfold mpE at hE
  unfold mpR at hR
  clear hC0
  cases ha : mayE (eds L)
  · rw [ha, if_neg (by decide)] at hE hR
    rw [ha] at h1
    subst hE
    replace hR := hide hR
    go_enter Tryz.func81, Tryz.ntmps81
    go_wp2_with (go_at_call 77; (with_reducible refine seq_gw h1.out ?_); intro g)
    go_returns
    exact ⟨_, [], rfl, by rw [hR.out]; rfl, OwnEr.nil _ _, g.grown⟩
  rw [ha, if_pos rfl, grp_eq (mayE_rise ha)] at hE hR
  rw [ha] at h1
  have hvE := hide (mayE_rise ha).1
  have hE0 := hide (And.intro hE hR)
  clear hE hR ha
  have hvR : Hid (∀ r ∈ rowsL (eds L), mayR r = true) := fun r hr => by
    obtain ⟨e, he, rfl⟩ := ((rowsL_ok hvE.out).2 r).1 hr
    exact hvE.out e he
  have hrows := hide (fun w' (hX : Ext w w') => refRows_c L (.slice A L.length cap) w' (hC.out.ext hX) hvE.out (by omega))
  go_enter Tryz.func81, Tryz.ntmps81
  go_wp2_with (first | (go_at_call 77; (with_reducible refine seq_gw h1.out ?_); intro g) | (go_at_call 87; refine (hrows.out _ (g.grown.alloc _)).mono ?_; rintro ee w2 ⟨rv, M, rfl, hM0, hrs0, hMq0, hx20⟩))
  have hXl := hide (g.grown)
  have hXlit := hide (g.grown.alloc (.cells #[] 115))
  have hlit := hide (World.ownsRow_lit (base := g.val.heap.size) (e := 115) (size := 3) g.val #[] 0 (Nat.le_refl _) (by decide) rfl)
  have hM := hide hM0
  have hrs := hide hrs0
  have hMq := hide hMq0
  have hx2 := hide hx20
  have hML : Hid (M.length ≤ 1024) := by
    show _ ≤ _
    have h1 := rowsL_len (eds L) hvE.out
    rw [← hM0] at h1
    simp only [rvs, eds, List.length_map] at h1
    omega
  obtain ⟨RA, rcap, e9, -, -, -⟩ := rs_form (Sl.own (S := []) hrs0 (by simp))
  subst e9
  have hEd : Hid (∀ k acc, Evs (ahOp t) (eds L) k acc → M.length ≤ k → (4096 < acc.length → E = 7 ∧ R = []) ∧ (¬ 4096 < acc.length → E = 0 ∧ R = acc)) := fun k acc h hk => by
    rw [hE0.out.1, hE0.out.2]
    exact h.done (by rw [← hM.out]; simpa [rvs] using hk)
  have hEb : Hid (∀ k acc r, Evs (ahOp t) (eds L) k acc → (rowsL (eds L))[k]? = some r → ((ahOp t) (jmps (eds L) r)).1 ≠ 0 → E = ((ahOp t) (jmps (eds L) r)).1 ∧ R = []) := fun k acc r h hr h0 => by
    rw [hE0.out.1, hE0.out.2]
    exact h.bad hr h0
  clear hM0 hrs0 hMq0 hx20
  go_loopg [8, 10] M.length (fun gh vv i wq => ∃ (k : Nat) (Y : List Ve), i = .int .i64 k ∧ k + gh = M.length ∧ OwnEr wq w.heap.size vv Y ∧ Y.length ≤ k * 1024 ∧ Hid (Evs (ahOp t) (eds L) k (eds Y)) ∧ Hid (Apt wq (ob vv) (.slice A L.length cap) (.slice RA M.length rcap) L M) ∧ Ext w wq)
  case atStart => exact ⟨0, [], rfl, by omega, ⟨own_base (own_ext hlit.out hx2.out) hXl.out.size, by simp⟩, Nat.le_refl _, Evs.zero _ _, by
    show Apt _ _ _ _ _ _
    exact Apt.start (hC.out.ext hXl.out) (Nat.le_refl _) (by simp) (((Ext.refl _).alloc _).trans hx2.out) hrs.out hMq.out, hXlit.out.trans hx2.out⟩
  case round =>
    obtain ⟨k, Y, rfl, hk, ho, hYk, hev, hap, hX⟩ := hrel
    obtain ⟨wq, hwq⟩ : ∃ wq, wq = wr := ⟨_, rfl⟩
    subst hwq
    have hzX := hX.size
    have hML2 := hML.out
    clear hlit hx2 hXlit hXl hrs hMq
    by_cases hlt : k < M.length
    · obtain ⟨⟨pv, pr⟩, hp⟩ : ∃ p, M[k]? = some p := ⟨_, List.getElem?_eq_getElem hlt⟩
      have hpr : (rowsL (eds L))[k]? = some pr := by rw [← hM.out]; simp [rvs, hp]
      obtain ⟨A9, c9, e9, -, -, hrt⟩ := rs_form hap.out.2.1
      cases e9
      obtain ⟨b', o', rfl, -, hb', d0⟩ := hrt k _ hp
      have hpw := hide (hap.out.2.2 _ (List.mem_of_getElem? hp))
      simp only at d0 hpw
      have hp8 : pr.length ≤ 8 := mayR_len (hvR.out _ (List.mem_of_getElem? hpr))
      have hj := hide (refJumps_c L pr (.slice A L.length cap) pv _ (hap.out.1.less (by simp)) (Sl.less hpw.out (by simp)) (by omega))
      have hjl : (jmps (eds L) pr).length ≤ 1024 := Nat.le_trans (jmps_le _ _) (by simp only [eds, List.length_map]; omega)
      have hopl := ahOp_len t (jmps (eds L) pr)
      have hbadE := hide (hEb.out k (eds Y) pr hev.out hpr)
      have hevn : Hid (((ahOp t) (jmps (eds L) pr)).1 = 0 → Evs (ahOp t) (eds L) (k + 1) (eds Y ++ ((ahOp t) (jmps (eds L) pr)).2.map fun j => (pr, j))) := fun h => hev.out.next hpr h
      obtain ⟨J, hJ⟩ : ∃ J, J = jmps (eds L) pr := ⟨_, rfl⟩
      rw [← hJ] at hj hjl hopl hbadE hevn
      have hop := hide (fun x w' hf => jrefAhead_c J t x w' hf)
      simp only [ahOp] at hopl hbadE hevn
      obtain ⟨XA, xcap, rfl⟩ := rw_val hpw.out
      obtain ⟨C, ccap, rfl⟩ := own_form ho.1
      have hK := hide (ob_ge ho.1)
      replace ho := hide ho
      replace hev := hide hev
      haveI : In b' _ := ⟨hb'⟩
      clear hrt hp hpr hJ
      by_cases he : ahE J t = 0
      · rw [he] at hop
        replace hevn := hide (hevn.out he)
        replace he := hide he
        go_wp2_with (first
          | (go_at_call 29; refine hj.out.mono ?_; rintro ee w3 ⟨v3, rfl, ho3, hx3⟩; have hf3 := hide (Sl.own (S := []) ho3 (by simp)); obtain ⟨C3, c3, q3⟩ := own_form ho3; subst q3; have k3 := cell_later hx3 d0; have hb3 : b' < w3.heap.size := block_lt_of_cell k3)
          | (go_at_call 150; refine (refNeg_c J _ _ hf3.out).mono ?_; rintro ee w6 ⟨v6, rfl, ho6, hx36⟩; have hx6 := hx3.trans hx36; have hf6 := hide (Sl.ext hf3.out hx36); obtain ⟨C6, c6, q6⟩ := own_form ho6; subst q6)
          | (go_at_call 151; refine (hop.out _ _ hf6.out).mono ?_; rintro ee w4 ⟨v4, rfl, ho4, hx34⟩; have hx4 := hx6.trans hx34; replace hx34 := hx6.size; obtain ⟨C4, c4, q4⟩ := own_form ho4; subst q4; have k4 := cell_later hx4 d0; have hb4 : b' < w4.heap.size := block_lt_of_cell k4)
          | (go_at_call 153; refine (refPutG_c (ob (.slice C Y.length ccap)) w.heap.size Y pr (ahR J t) _ _ _ w4 (ho.out.ext hx4) (Nat.le_trans hzX hx4.size) (fun q hq => by simp [ob, hq]) (Sl.ext hpw.out hx4) (by omega) (Sl.own ho4 (fun q hq => by have := (hK.out q hq).2; have := hx34; omega)) (by omega)).mono ?_; rintro ee w5 ⟨v5, N, rfl, hN, ho5, hF5, hb5⟩))
        go_roundg (M.length - (k + 1))
        case measure => omega
        case rel => exact ⟨k + 1, Y ++ N, by go_num, by omega, ho5, by
          have : N.length = (ahR J t).length := by have := congrArg List.length hN; simpa [eds] using this
          rw [List.length_append]; omega, by show Evs _ _ _ _; rw [eds_app, hN]; exact hevn.out, (hap.out.ext hx4).put hF5 hb5, ext_fr (hX.trans hx4) hF5 (fun b hb => (hK.out b hb).1)⟩
      · replace hbadE := hide (hbadE.out he)
        have bne : (ahE J t != 0) = true := by rw [bne_iff_ne]; exact he
        clear hevn
        go_wp2_with (first
          | (go_at_call 29; refine hj.out.mono ?_; rintro ee w3 ⟨v3, rfl, ho3, hx3⟩; have hf3 := hide (Sl.own (S := []) ho3 (by simp)); obtain ⟨C3, c3, q3⟩ := own_form ho3; subst q3; have k3 := cell_later hx3 d0; have hb3 : b' < w3.heap.size := block_lt_of_cell k3)
          | (go_at_call 150; refine (refNeg_c J _ _ hf3.out).mono ?_; rintro ee w6 ⟨v6, rfl, ho6, hx36⟩; have hx6 := hx3.trans hx36; have hf6 := hide (Sl.ext hf3.out hx36); obtain ⟨C6, c6, q6⟩ := own_form ho6; subst q6)
          | (go_at_call 151; refine (hop.out _ _ hf6.out).mono ?_; rintro ee w4 ⟨v4, rfl, ho4, hx34⟩; have hx4 := hx6.trans hx34; replace hx34 := hx6.size; obtain ⟨C4, c4, q4⟩ := own_form ho4; subst q4; have k4 := cell_later hx4 d0; have hb4 : b' < w4.heap.size := block_lt_of_cell k4))
        go_returns
        first | exact ⟨_, [], by rw [hbadE.out.1]; rfl, by rw [hbadE.out.2]; rfl, OwnEr.nil _ _, hX.trans hx4⟩ | exact ⟨_, by rw [hbadE.out.1]; rfl, [], by rw [hbadE.out.2]; rfl, OwnEr.nil _ _, hX.trans hx4⟩
    · have hge : (M.length : Int) ≤ k := by omega
      have hd := hEd.out k (eds Y) hev.out (by omega)
      rw [show (eds Y).length = Y.length by simp [eds]] at hd
      have hdh := hide hd
      clear hd
      obtain ⟨C, ccap, rfl⟩ := own_form ho.1
      by_cases hbig : 4096 < Y.length
      · have hf := hide (hdh.out.1 hbig)
        have hbI : (4096 : Int) < Y.length := by omega
        go_wp2_with fail
        go_returns
        first | exact ⟨_, [], by rw [hf.out.1]; rfl, by rw [hf.out.2]; rfl, OwnEr.nil _ _, hX⟩ | exact ⟨_, by rw [hf.out.1]; rfl, [], by rw [hf.out.2]; rfl, OwnEr.nil _ _, hX⟩
      · have hf := hide (hdh.out.2 hbig)
        have hbI : ¬ (4096 : Int) < Y.length := by omega
        replace ho := hide ho
        go_wp2_with fail
        go_returns
        first | exact ⟨_, Y, by rw [hf.out.1]; rfl, by rw [hf.out.2], ho.out, hX⟩ | exact ⟨_, by rw [hf.out.1]; rfl, Y, by rw [hf.out.2], ho.out, hX⟩
set_option maxHeartbeats 8000000 in
set_option maxRecDepth 100000 in
theorem refMapRest_c (L : List Ve) (t : Int) (hL : L.length ≤ 1024) (v : Value) (w : World) (hC0 : Ew w [] v L) : Calls Tryz.prog 81 #[v, .int .i64 2, .int .i64 t] w fun e w' => ∃ v' M, e = .returned (.tuple #[v', .int .i64 (mpE (reOp t) (eds L))]) ∧ eds M = mpR (reOp t) (eds L) ∧ OwnEr w' w.heap.size v' M ∧ Ext w w' := by
  have h1 := hide (refEdgeMay_c L v w hC0)
  obtain ⟨A, cap, rfl, hlc, hlm, -⟩ := ew_form hC0
  unfold maxLen at hlm
  have hC := hide hC0
  obtain ⟨E, hE⟩ : ∃ E, E = mpE (reOp t) (eds L) := ⟨_, rfl⟩
  obtain ⟨R, hR⟩ : ∃ R, R = mpR (reOp t) (eds L) := ⟨_, rfl⟩
  rw [← hE, ← hR]
  unfold mpE at hE
  unfold mpR at hR
  clear hC0
  cases ha : mayE (eds L)
  · rw [ha, if_neg (by decide)] at hE hR
    rw [ha] at h1
    subst hE
    replace hR := hide hR
    go_enter Tryz.func81, Tryz.ntmps81
    go_wp2_with (go_at_call 77; (with_reducible refine seq_gw h1.out ?_); intro g)
    go_returns
    exact ⟨_, [], rfl, by rw [hR.out]; rfl, OwnEr.nil _ _, g.grown⟩
  rw [ha, if_pos rfl, grp_eq (mayE_rise ha)] at hE hR
  rw [ha] at h1
  have hvE := hide (mayE_rise ha).1
  have hE0 := hide (And.intro hE hR)
  clear hE hR ha
  have hvR : Hid (∀ r ∈ rowsL (eds L), mayR r = true) := fun r hr => by
    obtain ⟨e, he, rfl⟩ := ((rowsL_ok hvE.out).2 r).1 hr
    exact hvE.out e he
  have hrows := hide (fun w' (hX : Ext w w') => refRows_c L (.slice A L.length cap) w' (hC.out.ext hX) hvE.out (by omega))
  go_enter Tryz.func81, Tryz.ntmps81
  go_wp2_with (first | (go_at_call 77; (with_reducible refine seq_gw h1.out ?_); intro g) | (go_at_call 87; refine (hrows.out _ (g.grown.alloc _)).mono ?_; rintro ee w2 ⟨rv, M, rfl, hM0, hrs0, hMq0, hx20⟩))
  have hXl := hide (g.grown)
  have hXlit := hide (g.grown.alloc (.cells #[] 115))
  have hlit := hide (World.ownsRow_lit (base := g.val.heap.size) (e := 115) (size := 3) g.val #[] 0 (Nat.le_refl _) (by decide) rfl)
  have hM := hide hM0
  have hrs := hide hrs0
  have hMq := hide hMq0
  have hx2 := hide hx20
  have hML : Hid (M.length ≤ 1024) := by
    show _ ≤ _
    have h1 := rowsL_len (eds L) hvE.out
    rw [← hM0] at h1
    simp only [rvs, eds, List.length_map] at h1
    omega
  obtain ⟨RA, rcap, e9, -, -, -⟩ := rs_form (Sl.own (S := []) hrs0 (by simp))
  subst e9
  have hEd : Hid (∀ k acc, Evs (reOp t) (eds L) k acc → M.length ≤ k → (4096 < acc.length → E = 7 ∧ R = []) ∧ (¬ 4096 < acc.length → E = 0 ∧ R = acc)) := fun k acc h hk => by
    rw [hE0.out.1, hE0.out.2]
    exact h.done (by rw [← hM.out]; simpa [rvs] using hk)
  have hEb : Hid (∀ k acc r, Evs (reOp t) (eds L) k acc → (rowsL (eds L))[k]? = some r → ((reOp t) (jmps (eds L) r)).1 ≠ 0 → E = ((reOp t) (jmps (eds L) r)).1 ∧ R = []) := fun k acc r h hr h0 => by
    rw [hE0.out.1, hE0.out.2]
    exact h.bad hr h0
  clear hM0 hrs0 hMq0 hx20
  go_loopg [8, 10] M.length (fun gh vv i wq => ∃ (k : Nat) (Y : List Ve), i = .int .i64 k ∧ k + gh = M.length ∧ OwnEr wq w.heap.size vv Y ∧ Y.length ≤ k * 1024 ∧ Hid (Evs (reOp t) (eds L) k (eds Y)) ∧ Hid (Apt wq (ob vv) (.slice A L.length cap) (.slice RA M.length rcap) L M) ∧ Ext w wq)
  case atStart => exact ⟨0, [], rfl, by omega, ⟨own_base (own_ext hlit.out hx2.out) hXl.out.size, by simp⟩, Nat.le_refl _, Evs.zero _ _, by
    show Apt _ _ _ _ _ _
    exact Apt.start (hC.out.ext hXl.out) (Nat.le_refl _) (by simp) (((Ext.refl _).alloc _).trans hx2.out) hrs.out hMq.out, hXlit.out.trans hx2.out⟩
  case round =>
    obtain ⟨k, Y, rfl, hk, ho, hYk, hev, hap, hX⟩ := hrel
    obtain ⟨wq, hwq⟩ : ∃ wq, wq = wr := ⟨_, rfl⟩
    subst hwq
    have hzX := hX.size
    have hML2 := hML.out
    clear hlit hx2 hXlit hXl hrs hMq
    by_cases hlt : k < M.length
    · obtain ⟨⟨pv, pr⟩, hp⟩ : ∃ p, M[k]? = some p := ⟨_, List.getElem?_eq_getElem hlt⟩
      have hpr : (rowsL (eds L))[k]? = some pr := by rw [← hM.out]; simp [rvs, hp]
      obtain ⟨A9, c9, e9, -, -, hrt⟩ := rs_form hap.out.2.1
      cases e9
      obtain ⟨b', o', rfl, -, hb', d0⟩ := hrt k _ hp
      have hpw := hide (hap.out.2.2 _ (List.mem_of_getElem? hp))
      simp only at d0 hpw
      have hp8 : pr.length ≤ 8 := mayR_len (hvR.out _ (List.mem_of_getElem? hpr))
      have hj := hide (refJumps_c L pr (.slice A L.length cap) pv _ (hap.out.1.less (by simp)) (Sl.less hpw.out (by simp)) (by omega))
      have hjl : (jmps (eds L) pr).length ≤ 1024 := Nat.le_trans (jmps_le _ _) (by simp only [eds, List.length_map]; omega)
      have hopl := reOp_len t (jmps (eds L) pr)
      have hbadE := hide (hEb.out k (eds Y) pr hev.out hpr)
      have hevn : Hid (((reOp t) (jmps (eds L) pr)).1 = 0 → Evs (reOp t) (eds L) (k + 1) (eds Y ++ ((reOp t) (jmps (eds L) pr)).2.map fun j => (pr, j))) := fun h => hev.out.next hpr h
      obtain ⟨J, hJ⟩ : ∃ J, J = jmps (eds L) pr := ⟨_, rfl⟩
      rw [← hJ] at hj hjl hopl hbadE hevn
      have hop := hide (fun x w' hf => jrefRest_c J t x w' hf)
      simp only [reOp] at hopl hbadE hevn
      obtain ⟨XA, xcap, rfl⟩ := rw_val hpw.out
      obtain ⟨C, ccap, rfl⟩ := own_form ho.1
      have hK := hide (ob_ge ho.1)
      replace ho := hide ho
      replace hev := hide hev
      haveI : In b' _ := ⟨hb'⟩
      clear hrt hp hpr hJ
      by_cases he : reE J t = 0
      · rw [he] at hop
        replace hevn := hide (hevn.out he)
        replace he := hide he
        go_wp2_with (first
          | (go_at_call 29; refine hj.out.mono ?_; rintro ee w3 ⟨v3, rfl, ho3, hx3⟩; have hf3 := hide (Sl.own (S := []) ho3 (by simp)); obtain ⟨C3, c3, q3⟩ := own_form ho3; subst q3; have k3 := cell_later hx3 d0; have hb3 : b' < w3.heap.size := block_lt_of_cell k3)
          | (go_at_call 150; refine (refNeg_c J _ _ hf3.out).mono ?_; rintro ee w6 ⟨v6, rfl, ho6, hx36⟩; have hx6 := hx3.trans hx36; have hf6 := hide (Sl.ext hf3.out hx36); obtain ⟨C6, c6, q6⟩ := own_form ho6; subst q6)
          | (go_at_call 152; refine (hop.out _ _ hf6.out).mono ?_; rintro ee w4 ⟨v4, rfl, ho4, hx34⟩; have hx4 := hx6.trans hx34; replace hx34 := hx6.size; obtain ⟨C4, c4, q4⟩ := own_form ho4; subst q4; have k4 := cell_later hx4 d0; have hb4 : b' < w4.heap.size := block_lt_of_cell k4)
          | (go_at_call 153; refine (refPutG_c (ob (.slice C Y.length ccap)) w.heap.size Y pr (reR J t) _ _ _ w4 (ho.out.ext hx4) (Nat.le_trans hzX hx4.size) (fun q hq => by simp [ob, hq]) (Sl.ext hpw.out hx4) (by omega) (Sl.own ho4 (fun q hq => by have := (hK.out q hq).2; have := hx34; omega)) (by omega)).mono ?_; rintro ee w5 ⟨v5, N, rfl, hN, ho5, hF5, hb5⟩))
        go_roundg (M.length - (k + 1))
        case measure => omega
        case rel => exact ⟨k + 1, Y ++ N, by go_num, by omega, ho5, by
          have : N.length = (reR J t).length := by have := congrArg List.length hN; simpa [eds] using this
          rw [List.length_append]; omega, by show Evs _ _ _ _; rw [eds_app, hN]; exact hevn.out, (hap.out.ext hx4).put hF5 hb5, ext_fr (hX.trans hx4) hF5 (fun b hb => (hK.out b hb).1)⟩
      · replace hbadE := hide (hbadE.out he)
        have bne : (reE J t != 0) = true := by rw [bne_iff_ne]; exact he
        clear hevn
        go_wp2_with (first
          | (go_at_call 29; refine hj.out.mono ?_; rintro ee w3 ⟨v3, rfl, ho3, hx3⟩; have hf3 := hide (Sl.own (S := []) ho3 (by simp)); obtain ⟨C3, c3, q3⟩ := own_form ho3; subst q3; have k3 := cell_later hx3 d0; have hb3 : b' < w3.heap.size := block_lt_of_cell k3)
          | (go_at_call 150; refine (refNeg_c J _ _ hf3.out).mono ?_; rintro ee w6 ⟨v6, rfl, ho6, hx36⟩; have hx6 := hx3.trans hx36; have hf6 := hide (Sl.ext hf3.out hx36); obtain ⟨C6, c6, q6⟩ := own_form ho6; subst q6)
          | (go_at_call 152; refine (hop.out _ _ hf6.out).mono ?_; rintro ee w4 ⟨v4, rfl, ho4, hx34⟩; have hx4 := hx6.trans hx34; replace hx34 := hx6.size; obtain ⟨C4, c4, q4⟩ := own_form ho4; subst q4; have k4 := cell_later hx4 d0; have hb4 : b' < w4.heap.size := block_lt_of_cell k4))
        go_returns
        first | exact ⟨_, [], by rw [hbadE.out.1]; rfl, by rw [hbadE.out.2]; rfl, OwnEr.nil _ _, hX.trans hx4⟩ | exact ⟨_, by rw [hbadE.out.1]; rfl, [], by rw [hbadE.out.2]; rfl, OwnEr.nil _ _, hX.trans hx4⟩
    · have hge : (M.length : Int) ≤ k := by omega
      have hd := hEd.out k (eds Y) hev.out (by omega)
      rw [show (eds Y).length = Y.length by simp [eds]] at hd
      have hdh := hide hd
      clear hd
      obtain ⟨C, ccap, rfl⟩ := own_form ho.1
      by_cases hbig : 4096 < Y.length
      · have hf := hide (hdh.out.1 hbig)
        have hbI : (4096 : Int) < Y.length := by omega
        go_wp2_with fail
        go_returns
        first | exact ⟨_, [], by rw [hf.out.1]; rfl, by rw [hf.out.2]; rfl, OwnEr.nil _ _, hX⟩ | exact ⟨_, by rw [hf.out.1]; rfl, [], by rw [hf.out.2]; rfl, OwnEr.nil _ _, hX⟩
      · have hf := hide (hdh.out.2 hbig)
        have hbI : ¬ (4096 : Int) < Y.length := by omega
        replace ho := hide ho
        go_wp2_with fail
        go_returns
        first | exact ⟨_, Y, by rw [hf.out.1]; rfl, by rw [hf.out.2], ho.out, hX⟩ | exact ⟨_, by rw [hf.out.1]; rfl, Y, by rw [hf.out.2], ho.out, hX⟩
end Go.Proofs.YtobmjcehgpmfgaaGreat
