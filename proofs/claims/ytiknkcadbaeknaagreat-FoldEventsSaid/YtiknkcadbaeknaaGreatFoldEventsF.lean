/-
  A helper of ours: no claim of its own. The closed facts of the row of FoldEvents, one by one.
-/
import Derived.Test.YtiknkcadbaeknaaGreatPakN
import Derived.Test.YtiknkcadbaeknaaGreatEdgRo
import Derived.Test.YtiknkcadbaeknaaGreatEdgMy
import Derived.Test.YtiknkcadbaeknaaGreatPakY
import Derived.Test.YtiknkcadbaeknaaGreatRows
import Derived.Test.YtiknkcadbaeknaaGreatChecked
import Derived.WalkKit
import Derived.ProofKit
import Derived.JoinedCond
set_option linter.unusedVariables false
set_option linter.unusedSimpArgs false
namespace Go.Proofs.YtiknkcadbaeknaaGreat
open Go.RowKit
attribute [local go_sem] GW.cell GW.frozen In.eq_true In.le_true In.ne In.ne' In.ne_add In.ne_add' In.lt_add Upto.le_true Upto.le_add Upto.lt_add
theorem sp_ways {l : List Ed} (h : tabE l = true) (r : List Vl) : (spE (jmps l r) = 7 ∧ 4096 < (lifeL (jmps l r)).length) ∨ (spE (jmps l r) = 0 ∧ spR (jmps l r) = lifeL (jmps l r) ∧ (lifeL (jmps l r)).length ≤ 4096) := by
  have h1 := mayJ_rows (tab_may h) r
  have h2 := tab_le h r
  have h3 := lifeL_len (jmps l r)
  by_cases h4 : 4096 < cntJ (jmps l r)
  · left
    exact ⟨by unfold spE; rw [if_pos h1, if_neg (by omega), if_pos h4], by omega⟩
  · right
    have h5 : spE (jmps l r) = 0 := by unfold spE; rw [if_pos h1, if_neg (by omega), if_neg h4]
    exact ⟨h5, by unfold spR; rw [if_pos h5], by omega⟩
set_option maxHeartbeats 8000000 in
set_option maxRecDepth 100000 in
theorem refPieces_c (L : List Ve) (hL : L.length ≤ 1024) (v : Value) (w : World) (hC0 : Ew w [] v L) : Calls Tryz.prog 108 #[v] w fun e w' => ∃ v' M, e = .returned (.tuple #[v', .int .i64 (pcE (eds L))]) ∧ eds M = pcR (eds L) ∧ OwnPr w' w.heap.size v' M ∧ Ext w w' := by
  have hm := hide (fun w' (hX : Ext w w') => refEdgeMay_c L v w' (hC0.ext hX))
  have ht := hide (fun w' (hX : Ext w w') => refEdgeTable_c L v w' (hC0.ext hX))
  obtain ⟨A, cap, rfl, hlc, hlm, -⟩ := ew_form hC0
  unfold maxLen at hlm
  have hC := hide hC0
  obtain ⟨E, hE⟩ : ∃ E, E = pcE (eds L) := ⟨_, rfl⟩
  obtain ⟨R, hR⟩ : ∃ R, R = pcR (eds L) := ⟨_, rfl⟩
  rw [← hE, ← hR]
  unfold pcR at hR
  rw [← hE] at hR
  unfold pcE at hE
  have hX0 := hide (Ext.refl w)
  cases hme : mayE (eds L)
  · rw [hme, if_neg (by decide)] at hE
    rw [hme] at hm
    subst hE
    have hf : Hid ((2 : Int) = 2 ∧ R = []) := ⟨rfl, by rw [hR, if_neg (by decide)]⟩
    clear hR hC0 ht
    go_enter Tryz.func108, Tryz.ntmps108
    go_wp2_with (go_at_call 164; (with_reducible refine seq_gw (hm.out _ (Ext.refl w)) ?_); intro g)
    go_returns
    first | exact ⟨_, [], rfl, by rw [hf.out.2]; rfl, OwnPr.nil _ _, g.grown⟩ | exact ⟨_, rfl, [], by rw [hf.out.2]; rfl, OwnPr.nil _ _, g.grown⟩
  rw [hme, if_pos rfl] at hE
  rw [hme] at hm
  cases hte : tabE (eds L)
  · rw [hte, if_neg (by decide)] at hE
    rw [hte] at ht
    subst hE
    have hf : Hid ((20 : Int) = 20 ∧ R = []) := ⟨rfl, by rw [hR, if_neg (by decide)]⟩
    clear hR hC0
    go_enter Tryz.func108, Tryz.ntmps108
    go_wp2_with (first | (go_at_call 164; (with_reducible refine seq_gw (hm.out _ (Ext.refl w)) ?_); intro g) | (go_at_call 165; (with_reducible refine seq_gw' (ht.out _ g.grown) ?_); intro g2))
    go_returns
    first | exact ⟨_, [], rfl, by rw [hf.out.2]; rfl, OwnPr.nil _ _, g2.grown⟩ | exact ⟨_, rfl, [], by rw [hf.out.2]; rfl, OwnPr.nil _ _, g2.grown⟩
  rw [hte, if_pos rfl] at hE
  rw [hte] at ht
  have hrise := mayE_rise hme
  have hvE : Hid (∀ e ∈ eds L, mayR e.1 = true) := hrise.1
  have hvR : Hid (∀ r ∈ rowsL (eds L), mayR r = true) := fun r hr => by
    obtain ⟨e, he, rfl⟩ := ((rowsL_ok hvE.out).2 r).1 hr
    exact hvE.out e he
  obtain ⟨G, hG⟩ : ∃ G, G = grp (eds L) := ⟨_, rfl⟩
  rw [← hG] at hE hR
  have hGb : G = byRows (eds L) := hG.trans (grp_eq hrise)
  have hstep : Hid (∀ (k : Nat) pr, (rowsL (eds L))[k]? = some pr → piecesL (G.take (k + 1)) = piecesL (G.take k) ++ lifeP pr (jmps (eds L) pr)) := fun k pr h => by
    rw [hGb, List.take_add_one, byRows_get h, Option.toList_some, piecesL_snoc]
  have hbig : Hid (∀ (k : Nat) (Y : List Ed), Y = piecesL (G.take k) → 4096 < Y.length → E = 7 ∧ R = []) := fun k Y h h4 => by
    have h5 := piecesL_pre G k
    rw [← h] at h5
    rw [if_pos (by omega)] at hE
    subst hE
    exact ⟨rfl, by rw [hR, if_neg (by decide)]⟩
  have hfin : Hid (∀ (k : Nat) (Y : List Ed), Y = piecesL (G.take k) → (rowsL (eds L)).length ≤ k → Y.length ≤ 4096 → E = 0 ∧ R = Y) := fun k Y h hk h4 => by
    rw [List.take_of_length_le (by rw [hGb, byRows_len]; exact hk)] at h
    rw [← h, if_neg (by omega)] at hE
    subst hE
    exact ⟨rfl, by rw [hR, if_pos rfl, h]⟩
  have hspw := hide (fun r => sp_ways hte r)
  have hrows := hide (fun w' (hX : Ext w w') => refRows_c L (.slice A L.length cap) w' (hC.out.ext hX) hvE.out (by omega))
  clear hE hR hG hGb hrise hme hte hC0 hX0
  go_enter Tryz.func108, Tryz.ntmps108
  go_wp2_with (first | (go_at_call 164; (with_reducible refine seq_gw (hm.out _ (Ext.refl w)) ?_); intro g) | (go_at_call 165; (with_reducible refine seq_gw' (ht.out _ g.grown) ?_); intro g2; have hXg := hide g2.grown; have hlit := hide (World.ownsRow_lit (base := g2.val.heap.size) (e := 95) (size := 3) g2.val #[] 0 (Nat.le_refl _) (by decide) rfl)) | (go_at_call 166; refine (hrows.out _ (hXg.out.alloc _)).mono ?_; rintro ee w2 ⟨rv, M, rfl, hM0, hrs0, hMq0, hx20⟩))
  have hM := hide hM0
  have hrs := hide hrs0
  have hMq := hide hMq0
  have hx2 := hide hx20
  have hML : Hid (M.length = (rowsL (eds L)).length) := by show _ = _; rw [← hM0]; simp [rvs]
  have hML2 : M.length ≤ 1024 := by
    have h1 := rowsL_len (eds L) hvE.out
    rw [← hM0] at h1
    simp only [rvs, eds, List.length_map] at h1
    omega
  obtain ⟨RA, rcap, e9, -, -, -⟩ := rs_form (Sl.own (S := []) hrs0 (by simp))
  subst e9
  have hXlit := hide (hXg.out.alloc (.cells #[] 95))
  have hBw : w.heap.size ≤ g2.val.heap.size := hXg.out.size
  clear hM0 hrs0 hMq0 hx20 hm ht hrows
  go_loopg [4, 6] M.length (fun gh vv i wq => ∃ (k : Nat) (Y : List Ve), i = .int .i64 k ∧ k + gh = M.length ∧ OwnPr wq w.heap.size vv Y ∧ Y.length ≤ 4096 ∧ Hid (eds Y = piecesL (G.take k)) ∧ Hid (Apt wq (ob vv) (.slice A L.length cap) (.slice RA M.length rcap) L M) ∧ Ext w wq)
  case atStart => exact ⟨0, [], rfl, by omega, ⟨own_base (own_ext hlit.out hx2.out) hBw, by simp⟩, by simp, (by show _ = _; simp [eds, piecesL]), by
    show Apt _ _ _ _ _ _
    exact Apt.start (hC.out.ext hXg.out) (Nat.le_refl _) (by simp) (((Ext.refl _).alloc _).trans hx2.out) hrs.out hMq.out, hXlit.out.trans hx2.out⟩
  case round =>
    clear hlit hx2 hXlit hrs hMq hXg hBw
    obtain ⟨k, Y, rfl, hk, ho, hYl, hev, hap, hX⟩ := hrel
    obtain ⟨wq, hwq⟩ : ∃ wq, wq = wr := ⟨_, rfl⟩
    subst hwq
    have hzX := hX.size
    by_cases hlt : k < M.length
    · obtain ⟨⟨pv, pr⟩, hp⟩ : ∃ p, M[k]? = some p := ⟨_, List.getElem?_eq_getElem hlt⟩
      have hpr : (rowsL (eds L))[k]? = some pr := by rw [← hM.out]; simp [rvs, hp]
      obtain ⟨A9, c9, e9, -, -, hrt⟩ := rs_form hap.out.2.1
      cases e9
      obtain ⟨b', o', rfl, hbn', hb', d0⟩ := hrt k _ hp
      have hpw := hide (hap.out.2.2 _ (List.mem_of_getElem? hp))
      simp only at d0 hpw
      have hp8 : pr.length ≤ 8 := mayR_len (hvR.out _ (List.mem_of_getElem? hpr))
      have hj := hide (refJumps_c L pr (.slice A L.length cap) pv _ (hap.out.1.less (by simp)) (Sl.less hpw.out (by simp)) (by omega))
      have hst := hide (hstep.out k pr hpr)
      obtain ⟨J, hJ⟩ : ∃ J, J = jmps (eds L) pr := ⟨_, rfl⟩
      have hsw := hspw.out pr
      rw [← hJ] at hj hst hsw
      have hop := hide (fun x w' (hf : Jw w' [] x J) => refSpans_c J x w' hf)
      obtain ⟨XA, xcap, rfl⟩ := rw_val hpw.out
      obtain ⟨C, ccap, rfl⟩ := own_form ho.1
      have hK := hide (ob_ge ho.1)
      replace ho := hide ho
      haveI : In b' _ := ⟨hb'⟩
      have d0' := hide d0
      clear hrt hp hpr hJ
      rcases hsw with ⟨hs7, hs8⟩ | ⟨hs0, hsR, hs4⟩
      · rw [hs7] at hop
        have hf := hide (hbig.out (k + 1) _ rfl (by rw [hst.out, List.length_append]; unfold lifeP; rw [List.length_map]; omega))
        replace hs8 := hide hs8
        replace hs7 := hide hs7
        go_wp2_with (first
          | (go_at_call 168; refine hj.out.mono ?_; rintro ee w3 ⟨v3, rfl, ho3, hx3⟩; have hf3 := hide (Sl.own (S := []) ho3 (by simp)); obtain ⟨C3, c3, q3⟩ := own_form ho3; subst q3)
          | (go_at_call 167; refine (hop.out _ _ hf3.out).mono ?_; rintro ee w4 ⟨v4, rfl, ho4, hx34⟩; have hx4 := hide (hx3.trans hx34); obtain ⟨C4, c4, q4⟩ := own_form ho4; subst q4))
        go_returns
        first | exact ⟨_, [], by rw [hf.out.1]; rfl, by rw [hf.out.2]; rfl, OwnPr.nil _ _, hX.trans hx4.out⟩ | exact ⟨_, by rw [hf.out.1]; rfl, [], by rw [hf.out.2]; rfl, OwnPr.nil _ _, hX.trans hx4.out⟩
      · rw [hs0, hsR] at hop
        obtain ⟨Sx, hSx⟩ : ∃ Sx, Sx = lifeL J := ⟨_, rfl⟩
        rw [← hSx] at hop hs4
        replace hst : Hid (piecesL (G.take (k + 1)) = piecesL (G.take k) ++ Sx.map fun s => (pr, s)) := by have := hst.out; unfold lifeP at this; rw [← hSx] at this; exact this
        clear hs0 hsR hSx
        go_wp2_with (first
          | (go_at_call 168; refine hj.out.mono ?_; rintro ee w3 ⟨v3, rfl, ho3, hx3⟩; have hz3 := hx3.size; have hf3 := hide (Sl.own (S := []) ho3 (by simp)); obtain ⟨C3, c3, q3⟩ := own_form ho3; subst q3)
          | (go_at_call 167; refine (hop.out _ _ hf3.out).mono ?_; rintro ee w4 ⟨v4, rfl, ho4, hx34⟩; have hx4 := hide (hx3.trans hx34); have hz4 := hx34.size))
        have hsl : Jw w4 (ob (.slice C Y.length ccap)) v4 Sx := Sl.own ho4 (fun q hq => by have := (hK.out q hq).2; omega)
        obtain ⟨B4, c4, rfl, hl4, hm4, hat4⟩ := jw_form hsl
        unfold maxLen at hm4
        replace hat4 := hide hat4
        have hap4 := hide (hap.out.ext hx4.out)
        have hpw4 := hide (Sl.ext hpw.out hx4.out)
        have ho04 := hide (ho.out.ext hx4.out)
        have hX4 := hide (hX.trans hx4.out)
        have hzB4 : w.heap.size ≤ w4.heap.size := hX4.out.size
        have d4 := hide (cell_later hx4.out d0'.out)
        have hb4 : b' < w4.heap.size := by omega
        have hob0 : Hid (∀ q, (Value.slice C Y.length ccap).ownBlock = some q → q ∈ ob (.slice C Y.length ccap) ∨ w4.heap.size ≤ q) := fun q hq => .inl (by simp [ob, hq])
        obtain ⟨K, hKe⟩ : ∃ K, K = ob (.slice C Y.length ccap) := ⟨_, rfl⟩
        rw [← hKe] at hat4 hap4 hpw4 hK hob0 hbn'
        clear hsl ho4 hf3 hj hop hap hpw ho d0 hx3 hx34 hKe
        go_loopg [4, 9] Sx.length (fun gh vv i wr => ∃ (j : Nat) (N YN : List Ve), i = .int .i64 j ∧ j + gh = Sx.length ∧ OwnPr wr w.heap.size vv YN ∧ YN.length ≤ Y.length + j ∧ Hid (YN = Y ++ N) ∧ Hid (eds N = (Sx.take j).map fun s => (pr, s)) ∧ Fr K w4 wr ∧ Hid (∀ q, vv.ownBlock = some q → q ∈ K ∨ w4.heap.size ≤ q))
        case atStart => exact ⟨0, [], Y, rfl, by omega, ho04.out, Nat.le_refl _, (by show _ = _; simp), rfl, Fr.refl K w4, hob0⟩
        case round =>
          obtain ⟨j, N, YN, rfl, hjg, ho, hYj, hYN, hN, hF, hob⟩ := hrel
          have hzF := hF.size
          have hzB : w.heap.size ≤ wr.heap.size := Nat.le_trans hzB4 hzF
          by_cases hlj : j < Sx.length
          · obtain ⟨⟨sa, sb⟩, hx⟩ : ∃ s, Sx[j]? = some s := ⟨_, List.getElem?_eq_getElem hlj⟩
            obtain ⟨b1, o1, rfl, hbn, hb1, c0, c1⟩ := hat4.out j _ hx
            have q1 := hide ((fr_cell (o := o1 + j * 2) hF hb1 hbn).trans c0)
            have q2 := hide ((fr_cell (o := o1 + j * 2 + 1) hF hb1 hbn).trans c1)
            have r0 := hide ((fr_cell (o := o' + k) hF hb4 hbn').trans d4.out)
            have hbr : b1 < wr.heap.size := by omega
            have hbr' : b' < wr.heap.size := by omega
            have hrx := hide (Sl.fr hpw4.out hF (fun _ h => h))
            have hnx := hide (show eds N ++ [(pr, (sa, sb))] = (Sx.take (j + 1)).map fun s => (pr, s) by rw [List.take_add_one, hx, hN.out]; simp)
            have ho0 := hide ho
            obtain ⟨C5, c5, q5⟩ := own_form ho.1
            subst q5
            replace ho := hide ho
            clear c0 c1 hat4 hx hbn hN hob0 ho04
            go_wp2_with fail
            refine wp_region_list_tail 13 [(.is (.slice C5 YN.length c5)), litF wr.heap.size, (.is (.slice (some ⟨b', o', none⟩) M.length rcap)), (.is (.int .i64 k)), (.is (.pointer (some ⟨b', o' + k, none⟩))), (.is (.slice XA pr.length xcap)), rowF (List.range wr.heap.size) pr, (.is (.slice (some ⟨b1, o1, none⟩) Sx.length c4)), (.is (.int .i64 j)), (.is (.pointer (some ⟨b1, o1 + j * 2, none⟩))), (.is (jm (sa, sb))), pcF (List.range wr.heap.size) pr (sa, sb), oneP (List.range wr.heap.size) pr (sa, sb)] (by kernel_rfl) (by kernel_rfl) (by kernel_rfl) (by kernel_rfl) (by kernel_rfl) (by kernel_rfl) (by kernel_rfl) ?_ ?_
            · refine ⟨?_, ?_, ?_, ?_, ?_, ?_, ?_, ?_, ?_, ?_, ?_, ?_, ?_, trivial⟩
              · intro b w' h hE
                have f4 : b.tmps.getD 4 undef = .slice C5 YN.length c5 := hE 4 (of_decide_eq_true (by kernel_rfl))
                exact good_move (wanted_none rfl) rfl f4
              · intro b w' h hE
                have hz0 := h.ext.size
                refine good_grow (w' := w'.alloc (.cells #[] 93)) (v := .slice (some ⟨w'.heap.size, 0, none⟩) 0 0) (wanted_none rfl) ?_ ⟨_, rfl, hz0, Ob.new w' 93 []⟩ ((Ext.refl _).alloc _)
                simp [execOp, Act.eval, buildRow0, Sem.run_bind, Sem.run_pure, Result.andThen_ok]
              · intro b w' h hE
                have f5 : b.tmps.getD 5 undef = .slice (some ⟨b', o', none⟩) M.length rcap := hE 5 (of_decide_eq_true (by kernel_rfl))
                exact good_move (wanted_none rfl) rfl f5
              · intro b w' h hE
                have f6 : b.tmps.getD 6 undef = .int .i64 k := hE 6 (of_decide_eq_true (by kernel_rfl))
                exact good_move (wanted_none rfl) rfl f6
              · intro b w' h hE
                have f46 : b.tmps.getD 46 undef = .slice (some ⟨b', o', none⟩) M.length rcap := h.dep 2 _ 46 (by kernel_rfl) rfl rfl
                have f47 : b.tmps.getD 47 undef = .int .i64 k := h.dep 3 _ 47 (by kernel_rfl) rfl rfl
                exact good_index (wanted_none rfl) rfl f46 f47 (by simp [go_sem, hlt, hlj]) rfl
              · intro b w' h hE
                have f48 : b.tmps.getD 48 undef = .pointer (some ⟨b', o' + k, none⟩) := h.dep 4 _ 48 (by kernel_rfl) rfl rfl
                have c0 := cell_later h.ext r0.out
                exact good_load (wanted_none rfl) rfl f48 (by simp [go_sem, c0]) rfl
              · intro b w' h hE
                have f45 : ∃ bb, (b.tmps.getD 45 undef) = .slice (some ⟨bb, 0, none⟩) 0 0 ∧ (wr.heap.size ≤ bb ∧ Ob w' bb 93 []) := h.dep 1 _ 45 (by kernel_rfl) rfl rfl
                have f49 : b.tmps.getD 49 undef = .slice XA pr.length xcap := h.dep 5 _ 49 (by kernel_rfl) rfl rfl
                have g49 : b.tmps[49]?.getD undef = .slice XA pr.length xcap := by rw [← Array.getD_eq_getD_getElem?]; exact f49
                obtain ⟨bb, e45, hbb, hob⟩ := f45
                have g45 : b.tmps[45]?.getD undef = .slice (some ⟨bb, 0, none⟩) 0 0 := by rw [← Array.getD_eq_getD_getElem?]; exact e45
                obtain ⟨v50, w50, hr50, ho50, hx50⟩ := run_app_lit (ty := 40) tValP (src_sl Tryz.underlying40 (Sl.ext hrx.out h.ext) (rc_one pr) (by omega)) (by unfold maxLen; omega) (by omega) hbb h.ext.size hob
                refine good_grow (w' := w50) (v := v50) (wanted_none rfl) ?_ (Sl.own ho50 (fun k hk => List.mem_range.1 hk)) hx50
                simp [execOp, resolve, invoke, builtin, Act.eval, g45, g49, hr50, Sem.run_bind, Sem.run_pure, Result.andThen_ok]
              · intro b w' h hE
                have f7 : b.tmps.getD 7 undef = .slice (some ⟨b1, o1, none⟩) Sx.length c4 := hE 7 (of_decide_eq_true (by kernel_rfl))
                exact good_move (wanted_none rfl) rfl f7
              · intro b w' h hE
                have f9 : b.tmps.getD 9 undef = .int .i64 j := hE 9 (of_decide_eq_true (by kernel_rfl))
                exact good_move (wanted_none rfl) rfl f9
              · intro b w' h hE
                have f51 : b.tmps.getD 51 undef = .slice (some ⟨b1, o1, none⟩) Sx.length c4 := h.dep 7 _ 51 (by kernel_rfl) rfl rfl
                have f52 : b.tmps.getD 52 undef = .int .i64 j := h.dep 8 _ 52 (by kernel_rfl) rfl rfl
                exact good_index (wanted_none rfl) rfl f51 f52 (by simp [go_sem, hlt, hlj]) rfl
              · intro b w' h hE
                have f53 : b.tmps.getD 53 undef = .pointer (some ⟨b1, o1 + j * 2, none⟩) := h.dep 9 _ 53 (by kernel_rfl) rfl rfl
                have c0 := cell_later h.ext q1.out
                have c1 := cell_later h.ext q2.out
                exact good_load (wanted_none rfl) rfl f53 (by simp [go_sem, c0, c1]) rfl
              · intro b w' h hE
                have f50 : Rw w' (List.range wr.heap.size) (b.tmps.getD 50 undef) pr := h.dep 6 _ 50 (by kernel_rfl) rfl rfl
                have f54 : b.tmps.getD 54 undef = jm (sa, sb) := h.dep 10 _ 54 (by kernel_rfl) rfl rfl
                have g54 : b.tmps[54]?.getD undef = jm (sa, sb) := by rw [← Array.getD_eq_getD_getElem?]; exact f54
                obtain ⟨A, cp, e50⟩ := rw_val f50
                have g50 : b.tmps[50]?.getD undef = .slice A pr.length cp := by rw [← Array.getD_eq_getD_getElem?]; exact e50
                rw [e50] at f50
                exact good_run (wanted_none rfl) (v := em (.slice A pr.length cp) (sa, sb)) (by simp [execOp, Act.eval, go_sem, g50, g54, jm, Sem.run_bind, Sem.run_pure, Result.andThen_ok]) ⟨A, cp, rfl, f50⟩
              · intro b w' h hE
                have f55 : ∃ A cp, (b.tmps.getD 55 undef) = em (.slice A pr.length cp) (sa, sb) ∧ Rw w' (List.range wr.heap.size) (.slice A pr.length cp) pr := h.dep 11 _ 55 (by kernel_rfl) rfl rfl
                obtain ⟨A, cp, e55, hr55⟩ := f55
                have g55 : b.tmps[55]?.getD undef = em (.slice A pr.length cp) (sa, sb) := by rw [← Array.getD_eq_getD_getElem?]; exact e55
                have := buildP1 A pr.length cp (sa, sb) w'
                refine good_grow (w' := w'.alloc (.cells #[.slice A pr.length cp, .int .i64 sa, .int .i64 sb] 95)) (v := .slice (some ⟨w'.heap.size, 0, none⟩) 1 1) (wanted_none rfl) ?_ ⟨_, oneP_new (.slice A pr.length cp) pr (sa, sb) w', Sl.ext hr55 ((Ext.refl _).alloc _)⟩ ((Ext.refl _).alloc _)
                simp [execOp, Act.eval, g55, this, Sem.run_bind, Sem.run_pure, Result.andThen_ok]
            · intro b w2 hX2 hd hz he' hf
              have e44 : b.tmps.getD 44 undef = .slice C5 YN.length c5 := hf 0 _ 44 (by omega) rfl rfl
              have f45 : ∃ bb, (b.tmps.getD 45 undef) = .slice (some ⟨bb, 0, none⟩) 0 0 ∧ (wr.heap.size ≤ bb ∧ Ob w2 bb 93 []) := hf 1 _ 45 (by omega) rfl rfl
              have e46 : b.tmps.getD 46 undef = .slice (some ⟨b', o', none⟩) M.length rcap := hf 2 _ 46 (by omega) rfl rfl
              have e47 : b.tmps.getD 47 undef = .int .i64 k := hf 3 _ 47 (by omega) rfl rfl
              have e48 : b.tmps.getD 48 undef = .pointer (some ⟨b', o' + k, none⟩) := hf 4 _ 48 (by omega) rfl rfl
              have e49 : b.tmps.getD 49 undef = .slice XA pr.length xcap := hf 5 _ 49 (by omega) rfl rfl
              have f50 : Rw w2 (List.range wr.heap.size) (b.tmps.getD 50 undef) pr := hf 6 _ 50 (by omega) rfl rfl
              have e51 : b.tmps.getD 51 undef = .slice (some ⟨b1, o1, none⟩) Sx.length c4 := hf 7 _ 51 (by omega) rfl rfl
              have e52 : b.tmps.getD 52 undef = .int .i64 j := hf 8 _ 52 (by omega) rfl rfl
              have e53 : b.tmps.getD 53 undef = .pointer (some ⟨b1, o1 + j * 2, none⟩) := hf 9 _ 53 (by omega) rfl rfl
              have e54 : b.tmps.getD 54 undef = jm (sa, sb) := hf 10 _ 54 (by omega) rfl rfl
              have f55 : ∃ A cp, (b.tmps.getD 55 undef) = em (.slice A pr.length cp) (sa, sb) ∧ Rw w2 (List.range wr.heap.size) (.slice A pr.length cp) pr := hf 11 _ 55 (by omega) rfl rfl
              have f56 : ∃ u, Sl w2 [] 3 (b.tmps.getD 56 undef) 1 (ec1 (u, pr, (sa, sb))) ∧ Rw w2 (List.range wr.heap.size) u pr := hf 12 _ 56 (by omega) rfl rfl
              have e := frame_puts hd hz he'
              obtain ⟨X, hXx⟩ : ∃ X : Nat → Value, ∀ d, b.tmps.getD d undef = X d := ⟨_, fun _ => rfl⟩
              rw [hXx] at e44 e46 e47 e48 e49 e51 e52 e53 e54 f45 f50 f55 f56
              obtain ⟨b45, q45, -, -⟩ := f45
              obtain ⟨A50, c50, q50⟩ := rw_val f50
              obtain ⟨A55, c55, q55, -⟩ := f55
              obtain ⟨u56, f56, r56⟩ := f56
              obtain ⟨A56, c56, q56⟩ := sl_form f56
              rw [show dstsOf _ = [44, 45, 46, 47, 48, 49, 50, 51, 52, 53, 54, 55, 56] from rfl] at e
              simp only [List.foldl_cons, List.foldl_nil, hXx, Act.put, List.setIfInBounds_toArray, List.set_cons_succ, List.set_cons_zero] at e
              rw [e44, e46, e47, e48, e49, e51, e52, e53, e54, q45, q50, q55, q56] at e
              rw [q50] at f50
              replace f50 := hide f50
              rw [q56] at f56
              replace f56 := hide f56
              clear hf he' hz hd hXx e44 e46 e47 e48 e49 e51 e52 e53 e54 q45 q50 q55 q56
              subst e
              have hzw := hX2.size
              simp only [List.drop_succ_cons, List.drop_zero]
              replace r56 := hide r56
              have hone := row_one r56.out
              go_wp2_with (at_builtin; (refine wpl_app tPc rfl (.tmp 44) (.tmp 56) rfl rfl (own_ext ho.out.1 hX2) rfl (src_sl Tryz.underlying50 f56.out (ec1_one hone) (by omega)) (by unfold maxLen; omega) (by omega) (Nat.le_trans hzB hX2.size) ?_; intro v8 w8 ho8 hg8 hob8; have hX8 := hide ((hF.then (S' := []) (Fr.of_ext hX2) (by simp)).grown hg8 hob.out)))
              go_roundg (Sx.length - (j + 1))
              case measure => omega
              case rel =>
                have ho9 : OwnPr w8 w.heap.size v8 (YN ++ [(u56, pr, (sa, sb))]) := (ho.out.ext hX2).app (own_appP (M := [(u56, pr, (sa, sb))]) (by simpa [ec, ec1] using ho8)) hg8 hob8 (fun p hp => by
                  obtain rfl := List.mem_singleton.1 hp
                  refine ⟨_, r56.out, fun q hq => List.mem_range.2 ?_⟩
                  rcases List.mem_append.1 hq with hq | hq
                  · have := (ob_ge ho0.out.1 q hq).2; omega
                  · have := List.mem_range.1 hq; omega)
                have hob9 : Hid (∀ q, v8.ownBlock = some q → q ∈ K ∨ w4.heap.size ≤ q) := fun q hq => by
                  rcases hob8 with h8 | h8
                  · exact hob.out q (h8.symm.trans hq)
                  · rw [h8] at hq; obtain rfl := Option.some.inj hq; right; omega
                exact ⟨j + 1, N ++ [(u56, pr, (sa, sb))], YN ++ [(u56, pr, (sa, sb))], by go_num, by omega, ho9, by rw [List.length_append, List.length_singleton]; omega, (by show _ = _; rw [hYN.out, List.append_assoc]), by show _ = _; rw [eds, List.map_append]; exact hnx.out, hX8.out, hob9⟩
          · have hj' : j = Sx.length := by omega
            have hge : (Sx.length : Int) ≤ j := by omega
            have hN2 := hN.out
            rw [hj', List.take_of_length_le (Nat.le_refl _)] at hN2
            have hYY : eds YN = piecesL (G.take (k + 1)) := by rw [hYN.out, eds_app, hev.out, hN2, hst.out]
            have hXf := hide (ext_fr hX4.out hF (fun b hb => (hK.out b hb).1))
            have hap5 := hide (hap4.out.put hF hob.out)
            obtain ⟨C5, c5, q5⟩ := own_form ho.1
            subst q5
            replace ho := hide ho
            have hYYl : (eds YN).length = YN.length := by simp [eds]
            have hbg := hbig.out (k + 1) _ hYY
            rw [hYYl] at hbg
            replace hYY := hide hYY
            replace hN2 := hide hN2
            replace hj' := hide hj'
            clear hN hat4 hYYl ho04 hob0
            by_cases hb9 : 4096 < YN.length
            · have hf := hide (hbg hb9)
              have hbI : (4096 : Int) < YN.length := by omega
              clear hbg
              go_wp2_with fail
              go_returns
              first | exact ⟨_, [], by rw [hf.out.1]; rfl, by rw [hf.out.2]; rfl, OwnPr.nil _ _, hXf.out⟩ | exact ⟨_, by rw [hf.out.1]; rfl, [], by rw [hf.out.2]; rfl, OwnPr.nil _ _, hXf.out⟩
            · have hbI : ¬ (4096 : Int) < YN.length := by omega
              clear hbg
              go_wp2_with fail
              go_roundg (M.length - (k + 1))
              case measure => omega
              case rel => exact ⟨k + 1, YN, by go_num, by omega, ho.out, by omega, hYY, hap5, hXf.out⟩
    · have hge : (M.length : Int) ≤ k := by omega
      have hf := hide (hfin.out k (eds Y) hev.out (by have := hML.out; omega) (by simpa [eds] using hYl))
      obtain ⟨C, ccap, rfl⟩ := own_form ho.1
      replace ho := hide ho
      clear hev hap
      go_wp2_with fail
      go_returns
      first | exact ⟨_, Y, by rw [hf.out.1]; rfl, by rw [hf.out.2], ho.out, hX⟩ | exact ⟨_, by rw [hf.out.1]; rfl, Y, by rw [hf.out.2], ho.out, hX⟩
set_option maxHeartbeats 4000000 in
set_option maxRecDepth 100000 in
theorem refPcPack_c (L : List Ve) (hL : L.length ≤ 512) (v : Value) (w : World) (h : Ew w [] v L) : Calls Tryz.prog 59 #[v] w fun e w' => ∃ v' M, e = .returned (.tuple #[v', .int .i64 (ppE (eds L))]) ∧ eds M = ppR (eds L) ∧ OwnPr w' w.heap.size v' M ∧ Ext w w' := by
  have hc := hide (refPcEdges_c L hL v w h)
  have hpp : ppE (eds L) = if pkE (eds L) = 0 then pcE (pkR (eds L)) else pkE (eds L) := rfl
  have hpr : ppR (eds L) = if pkE (eds L) = 0 then pcR (pkR (eds L)) else [] := rfl
  have hlen : pkE (eds L) = 0 → (pkR (eds L)).length ≤ 1024 := fun h0 => by
    obtain ⟨h1, h2, h3, h4⟩ := pk_zero h0
    rw [← grp_back (pkR (eds L)), grp_eq (mayE_rise h3), ev_flat]
    have := len_rows (fun q => jmps (pkR (eds L)) q) _ (endsE (eds L)) (rowsL_ok (mayE_rise h3).1).1 fun r _ => by
      have k := nm_len (spj (jmps (eds L) r))
      rw [h4 r] at k
      rw [jmps_ends]
      exact k
    rw [ends_len] at this
    have e9 : (eds L).length = L.length := by simp [eds]
    rw [e9] at this
    exact Nat.le_trans this (by omega)
  generalize ppE (eds L) = E2 at *
  generalize ppR (eds L) = R2 at *
  obtain ⟨A, cap, rfl, -, -, -⟩ := ew_form h
  clear h
  by_cases hz : pkE (eds L) = 0
  · rw [if_pos hz] at hpp hpr
    have hlen2 := hlen hz
    rw [hz] at hc
    obtain ⟨R, hR⟩ : ∃ R, R = pkR (eds L) := ⟨_, rfl⟩
    rw [← hR] at hc hpp hpr hlen2
    replace hpp := hide hpp
    replace hpr := hide hpr
    replace hz := hide hz
    replace hR := hide hR
    clear hlen
    go_enter Tryz.func59, Tryz.ntmps59
    go_wp2_with (first | (go_at_call 107; refine hc.out.mono ?_; rintro ee w1 ⟨v1, M1, rfl, hM1, ho1, hx1⟩; have hpc := hide (refPieces_c M1 (by have := congrArg List.length hM1; simp only [eds, List.length_map] at this; omega) v1 w1 ho1.ew); rw [hM1] at hpc; obtain ⟨A1, c1, rfl⟩ := own_form ho1.1; replace hM1 := hide hM1; replace ho1 := hide ho1) | (go_at_call 108; refine hpc.out.mono ?_; rintro ee w2 ⟨v2, M2, rfl, hM2, ho2, hx2⟩; obtain ⟨A2, c2, rfl⟩ := own_form ho2.1; replace hM2 := hide hM2; replace ho2 := hide ho2))
    go_returns
    exact ⟨_, M2, by rw [hpp.out]; rfl, by rw [hpr.out, hM2.out], ho2.out.lower hx1.size, hx1.trans hx2⟩
  · rw [if_neg hz] at hpp hpr
    have hne : (pkE (eds L) != 0) = true := by simp [hz]
    clear hlen
    generalize pkE (eds L) = E at *
    subst hpp
    replace hpr := hide hpr
    replace hz := hide hz
    go_enter Tryz.func59, Tryz.ntmps59
    go_wp2_with (go_at_call 107; refine hc.out.mono ?_; rintro ee w1 ⟨v1, M1, rfl, hM1, ho1, hx1⟩; obtain ⟨A1, c1, rfl⟩ := own_form ho1.1; replace hM1 := hide hM1; replace ho1 := hide ho1)
    go_returns
    exact ⟨_, [], rfl, by rw [hpr.out]; rfl, OwnPr.nil _ _, hx1⟩
end Go.Proofs.YtiknkcadbaeknaaGreat
set_option linter.unusedVariables false
set_option linter.unusedSimpArgs false
namespace Go.Proofs.YtiknkcadbaeknaaGreat
open Go.RowKit
attribute [local go_sem] GW.cell GW.frozen In.eq_true In.le_true In.ne In.ne' In.ne_add In.ne_add' In.lt_add Upto.le_true Upto.le_add Upto.lt_add
theorem exP_lft (l : List PM) : exP l = (lftL (runS (0, []) l).2).map exP1 := by
  unfold exP
  rw [lft_ex _ (run_okS l ex_okS)]
set_option maxHeartbeats 8000000 in
set_option maxRecDepth 100000 in
theorem refTable13_c (L : List Vm) (v : Value) (w : World) (hL : Mw w [] v L) (hlen : L.length ≤ 512) : Calls Tryz.prog 19 #[v] w fun e w' => ∃ v' N, e = .returned (.tuple #[v', .int .i64 (ppE (exP (pms L)))]) ∧ eds N = ppR (exP (pms L)) ∧ OwnPr w' w.heap.size v' N ∧ Ext w w' := by
  have hal := hide (refAll_c L v w hL (by omega))
  unfold AllPost at hal
  have hpl : (pms L).length = L.length := by simp [pms]
  rw [hpl] at hal
  have hPx := hide (exP_lft (pms L))
  obtain ⟨P, hP⟩ : ∃ P, P = exP (pms L) := ⟨_, rfl⟩
  rw [← hP] at hPx ⊢
  obtain ⟨S, hS⟩ : ∃ S, S = runS (0, []) (pms L) := ⟨_, rfl⟩
  rw [← hS] at hPx hal
  replace hP := hide hP
  replace hS := hide hS
  obtain ⟨Ee, hEe⟩ : ∃ Ee, Ee = ppE P := ⟨_, rfl⟩
  obtain ⟨Rr, hRr⟩ : ∃ Rr, Rr = ppR P := ⟨_, rfl⟩
  rw [← hEe, ← hRr]
  replace hEe := hide hEe
  replace hRr := hide hRr
  obtain ⟨LA, lc, rfl, -, -, -⟩ := mw_form hL
  clear hL hpl
  go_enter Tryz.func19, Tryz.ntmps19
  go_wp2_with (first | (go_at_call 11; (refine hal.out.mono ?_; rintro ee w1 ⟨v1, u1, rfl, ev, gv, EL, CL, ho1, hC1, -, hSd, hEl, hX1⟩; obtain ⟨A1, c1, q1⟩ := own_form ho1; subst q1; obtain ⟨B1, d1, q1⟩ := hC1.form; subst q1; replace hSd := hide hSd; replace hX1 := hide hX1; clear ho1 hC1)) | (go_at_call 16; (refine (refLeft_c w.heap.size w.heap.size S ev gv EL w1 hSd.out (by omega)).mono ?_; rintro ee w2 ⟨v2, M, rfl, ho2, hM, hX2⟩; obtain ⟨A2, c2, q2⟩ := ho2.form; subst q2; have hMl : M.length ≤ 512 := (by have h1 := congrArg List.length hM; have h2 := lft_len S.2; have h3 := congrArg List.length hSd.out.evs; rw [List.length_map] at h1 h3; omega); have hMP := hide (show M.map (fun p => exP1 p.2) = P by (rw [hPx.out, ← hM, List.map_map]; rfl)); replace hX2 := hide (hX1.out.trans hX2); replace ho2 := hide ho2; clear hM)) | (go_at_call 60; (refine (refPieces13_c _ M _ w2 ho2.out (by omega)).mono ?_; rintro ee w3 ⟨v3, N, rfl, ho3, hN, hX3⟩; obtain ⟨A3, c3, q3⟩ := ho3.form; subst q3; have hNl : N.length ≤ 512 := (by have h1 := congrArg List.length hN; simp only [eds, List.length_map] at h1; omega); have hpk := refPcPack_c N hNl _ w3 (OwnPx.ew ho3); rw [hN, hMP.out, ← hEe.out, ← hRr.out] at hpk; replace hpk := hide hpk; replace hX3 := hide (hX2.out.trans hX3); clear hN ho3)) | (go_at_call 59; (refine hpk.out.mono ?_; rintro ee w4 ⟨v4, N4, rfl, hN4, ho4, hX4⟩; obtain ⟨A4, c4, q4⟩ := own_form ho4.1; subst q4; replace hN4 := hide hN4; replace ho4 := hide ho4; replace hX4 := hide hX4)))
  go_returns
  exact ⟨_, N4, rfl, hN4.out, ho4.out.lower hX3.out.size, hX3.out.trans hX4.out⟩
end Go.Proofs.YtiknkcadbaeknaaGreat
namespace Go.Proofs.YtiknkcadbaeknaaGreat.Facts.foldEvents
open Go.ChangeShapes Go.WideShapes Go.ChangeAt Go.RowKit
theorem c1 : (Rows.foldEventsRow.inPlace == Tryz.prog.inPlace 5) = true := by kernel_rfl
theorem c2 : (Rows.foldEventsRow.unfollowed == Tryz.prog.unfollowed 5) = true := by kernel_rfl
theorem c3 : (Rows.foldEventsRow.recurses == Tryz.prog.recurses 5) = true := by kernel_rfl
theorem c4 : (Rows.foldEventsRow.named == Tryz.prog.varsNamed 5) = true := by kernel_rfl
theorem c5 : laidOutB Tryz.prog = true := by kernel_rfl
theorem c6 : mapsRowed Tryz.prog = true := by kernel_rfl
theorem closed : joinedFacts Tryz.prog 5 Tryz.f5 Rows.foldEventsSpec Rows.foldEventsRow = true := by
  unfold joinedFacts
  rw [c1, c2, c3, c4, c5, c6]
  kernel_rfl
end Go.Proofs.YtiknkcadbaeknaaGreat.Facts.foldEvents
