/-
  A helper of ours: no claim of its own. Layer 14 (past): a message taken, by the document.
-/
import Derived.Test.YtajelkkiijdegaaGreatPqB
set_option linter.unusedVariables false
set_option linter.unusedSimpArgs false
namespace Go.Proofs.YtajelkkiijdegaaGreat
open Go.RowKit
attribute [local go_sem] GW.cell GW.frozen In.eq_true In.le_true In.ne In.ne' In.ne_add In.ne_add' In.lt_add Upto.le_true Upto.le_add Upto.lt_add
set_option maxHeartbeats 8000000 in
set_option maxRecDepth 100000 in
theorem docPast_no (base r : Nat) (sv : Value) (S : StD) (ev gv : Value) (L : List Lv) (sc : List Cl) (k i f t : Int) (l : List Vl) (v : Value) (w : World) (h : Sd w base r sv S ev gv L) (hn : L.length ≤ 4000) (hsc : Cw w [] sv sc) (hv : Rw w [] v l) (h0 : resP sc S ((k, i, f, t), l) ≠ 0) :
    Calls Tryz.prog 11 #[.pointer (some ⟨r, 0, none⟩), mg k i f t v] w fun e w' => e = .returned (.tuple #[zChV, .int .i64 (resP sc S ((k, i, f, t), l))]) ∧ Ext w w' := by
  have hck := hide (fun w' (hX : Ext w w') => refCheck_c k i f t l v w' (Sl.ext hv hX))
  have hcd := hide (fun w' (hX : Ext w w') => docCheck_c base r sv S ev gv L k i f t l v w' (h.ext hX) (by omega) (Sl.ext hv hX))
  have hft := hide (fun w' (hX : Ext w w') => refFitsS_c (Sl.ext hsc hX) (Sl.ext hv hX))
  obtain ⟨VA, vc, rfl⟩ := rw_val hv
  obtain ⟨SA, scap, rfl, -, -, -⟩ := cw_form hsc
  obtain ⟨ll, hll⟩ : ∃ ll, ll = l.length := ⟨_, rfl⟩
  rw [← hll] at hck hcd hft ⊢
  replace hll := hide hll
  obtain ⟨bm, hbm⟩ : ∃ bm, bm = w.heap.size := ⟨_, rfl⟩
  obtain ⟨bc, hbc⟩ : ∃ bc, bc = w.heap.size + 1 := ⟨_, rfl⟩
  obtain ⟨W0, hW0⟩ : ∃ W0, W0 = (w.alloc (.cells #[.int .i64 k, .int .i64 i, .int .i64 f, .int .i64 t, .slice VA ll vc] 44)).alloc (.cells #[.int .i64 0, .slice none 0 0, .int .i64 0, .int .i64 0, .int .i64 0, .int .i64 0] 39) := ⟨_, rfl⟩
  have hX0 : Ext w W0 := by rw [hW0]; exact ((Ext.refl w).alloc _).alloc _
  have hOm : Hid (Ob W0 bm 44 [.int .i64 k, .int .i64 i, .int .i64 f, .int .i64 t, .slice VA ll vc]) := by show Ob _ _ _ _; rw [hW0, hbm]; exact (Ob.new w _ [_, _, _, _, _]).alloc _
  have hOc : Hid (Ob W0 bc 39 [.int .i64 0, .slice none 0 0, .int .i64 0, .int .i64 0, .int .i64 0, .int .i64 0]) := by
    show Ob _ _ _ _
    rw [hW0, hbc, ← World.size_alloc w (.cells #[.int .i64 k, .int .i64 i, .int .i64 f, .int .i64 t, .slice VA ll vc] 44)]
    exact Ob.new _ _ [_, _, _, _, _, _]
  have c0 := (h.ob.ext hX0).cell 0 rfl
  have hX0h := hide hX0
  have m0 := hOm.out.cell 0 rfl
  have m1 := hOm.out.cell 1 rfl
  have m2 := hOm.out.cell 2 rfl
  have m3 := hOm.out.cell 3 rfl
  have m4 := hOm.out.cell 4 rfl
  have w0 := hOc.out.free 0
  have w1 := hOc.out.free 1
  have w2 := hOc.out.free 2
  have w3 := hOc.out.free 3
  have w4 := hOc.out.free 4
  have w5 := hOc.out.free 5
  have oc0 := hOc.out.cell 0 rfl
  have oc1 := hOc.out.cell 1 rfl
  have oc2 := hOc.out.cell 2 rfl
  have oc3 := hOc.out.cell 3 rfl
  have oc4 := hOc.out.cell 4 rfl
  have oc5 := hOc.out.cell 5 rfl
  haveI : In r W0 := ⟨(h.ob.ext hX0).lt⟩
  haveI : In bm W0 := ⟨hOm.out.lt⟩
  haveI : In bc W0 := ⟨hOc.out.lt⟩
  have hbc0 : w.heap.size ≤ bc := by omega
  have hW0h := hide hW0
  have hbmh := hide hbm
  have hbch := hide hbc
  have hh := hide h
  obtain ⟨R, hR⟩ : ∃ R, R = resP sc S ((k, i, f, t), l) := ⟨_, rfl⟩
  rw [← hR] at h0 ⊢
  have hR2 := hR
  unfold resP resI mkM at hR2
  generalize chkD S ((k, i, f, t), l) = E at *
  generalize fitsS sc l = FT at *
  generalize mchk k i f t l = K at *
  simp only at hR2
  clear hR hv hsc h hW0 hbm hbc hX0
  by_cases hK : K = 0
  · rw [if_pos hK] at hR2
    subst hK
    by_cases hk : k = 1
    · subst hk
      cases FT
      · rw [if_pos (by simp)] at hR2
        subst hR2
        clear hcd
        go_enter Tryz.func11, Tryz.ntmps11
        go_wp2_with fail
        rw [← hW0h.out]
        try rw [← hbch.out]
        try rw [← hbmh.out]
        first | ((with_reducible refine seq_gw' (hck.out _ hX0h.out) ?_); intro g) | ((with_reducible refine seq_gw (hck.out _ hX0h.out) ?_); intro g)
        go_wp2_with fail
        refine wp_region_gw (by kernel_rfl) (by kernel_rfl) ?_
        repeat (go_big_quiet_step ((go_at_call 47; with_reducible exact quiet_gw (hft.out _ (hX0h.out.trans (g.grown.trans (GW.grown _)))))))
        refine wpQuiet_nil ?_
        intro g2
        go_wp2_with fail
        have hXe := hide (g.grown.trans g2.grown)
        have hOg := hOc.out.ext hXe.out
        have hO9 : Ob ((((((g2.val.setCell ⟨bc, 0, none⟩ (.int .i64 0)).setCell ⟨bc, 1, none⟩ (.slice none 0 0)).setCell ⟨bc, 2, none⟩ (.int .i64 0)).setCell ⟨bc, 3, none⟩ (.int .i64 0)).setCell ⟨bc, 4, none⟩ (.int .i64 0)).setCell ⟨bc, 5, none⟩ (.int .i64 0)) bc 39 [.int .i64 0, .slice none 0 0, .int .i64 0, .int .i64 0, .int .i64 0, .int .i64 0] := (((((hOg.set 0 _).set 1 _).set 2 _).set 3 _).set 4 _).set 5 _
        have x0 := hO9.cell 0 rfl
        have x1 := hO9.cell 1 rfl
        have x2 := hO9.cell 2 rfl
        have x3 := hO9.cell 3 rfl
        have x4 := hO9.cell 4 rfl
        have x5 := hO9.cell 5 rfl
        refine bodyPost_ret (by simp [results, Tryz.results11, go_sem, x0, x1, x2, x3, x4, x5]; try rfl) rfl ?_
        refine ⟨by first | rfl | simp [zChV], ?_⟩
        repeat refine Ext.setCell ?_ (show w.heap.size ≤ bc from hbc0) _
        exact hX0h.out.trans hXe.out
      · rw [if_neg (by simp)] at hR2
        by_cases hE : E = 0
        · rw [if_pos hE, if_neg (by simp)] at hR2; exact absurd hR2 h0
        · rw [if_neg hE] at hR2
          subst hR2
          have e1 : (R != 0) = true := by rw [bne_iff_ne]; exact hE
          have e2 : (R == 0) = false := by simp [hE]
          go_enter Tryz.func11, Tryz.ntmps11
          go_wp2_with fail
          rw [← hW0h.out]
          try rw [← hbch.out]
          try rw [← hbmh.out]
          first | ((with_reducible refine seq_gw' (hck.out _ hX0h.out) ?_); intro g) | ((with_reducible refine seq_gw (hck.out _ hX0h.out) ?_); intro g)
          go_wp2_with fail
          refine wp_region_gw (by kernel_rfl) (by kernel_rfl) ?_
          repeat (go_big_quiet_step ((go_at_call 47; with_reducible exact quiet_gw (hft.out _ (hX0h.out.trans (g.grown.trans (GW.grown _)))))))
          refine wpQuiet_nil ?_
          intro g2
          go_wp2_with fail
          refine wp_region_gw (by kernel_rfl) (by kernel_rfl) ?_
          repeat (go_big_quiet_step ((go_at_call 48; with_reducible exact quiet_gw (hcd.out _ (hX0h.out.trans (g.grown.trans (g2.grown.trans (GW.grown _))))))))
          refine wpQuiet_nil ?_
          intro g3
          go_wp2_with fail
          have hXe := hide (g.grown.trans (g2.grown.trans g3.grown))
          have hOg := hOc.out.ext hXe.out
          have hO9 : Ob ((((((g3.val.setCell ⟨bc, 0, none⟩ (.int .i64 0)).setCell ⟨bc, 1, none⟩ (.slice none 0 0)).setCell ⟨bc, 2, none⟩ (.int .i64 0)).setCell ⟨bc, 3, none⟩ (.int .i64 0)).setCell ⟨bc, 4, none⟩ (.int .i64 0)).setCell ⟨bc, 5, none⟩ (.int .i64 0)) bc 39 [.int .i64 0, .slice none 0 0, .int .i64 0, .int .i64 0, .int .i64 0, .int .i64 0] := (((((hOg.set 0 _).set 1 _).set 2 _).set 3 _).set 4 _).set 5 _
          have x0 := hO9.cell 0 rfl
          have x1 := hO9.cell 1 rfl
          have x2 := hO9.cell 2 rfl
          have x3 := hO9.cell 3 rfl
          have x4 := hO9.cell 4 rfl
          have x5 := hO9.cell 5 rfl
          refine bodyPost_ret (by simp [results, Tryz.results11, go_sem, x0, x1, x2, x3, x4, x5]; try rfl) rfl ?_
          refine ⟨by first | rfl | simp [zChV], ?_⟩
          repeat refine Ext.setCell ?_ (show w.heap.size ≤ bc from hbc0) _
          exact hX0h.out.trans hXe.out
    · have q1 : (k == 1) = false := by simp [hk]
      rw [if_neg (by simp [hk])] at hR2
      by_cases hE : E = 0
      · rw [if_pos hE, if_neg (by simp [hk])] at hR2; exact absurd hR2 h0
      · rw [if_neg hE] at hR2
        subst hR2
        have e1 : (R != 0) = true := by rw [bne_iff_ne]; exact hE
        have e2 : (R == 0) = false := by simp [hE]
        go_enter Tryz.func11, Tryz.ntmps11
        go_wp2_with fail
        rw [← hW0h.out]
        try rw [← hbch.out]
        try rw [← hbmh.out]
        first | ((with_reducible refine seq_gw' (hck.out _ hX0h.out) ?_); intro g) | ((with_reducible refine seq_gw (hck.out _ hX0h.out) ?_); intro g)
        go_wp2_with fail
        refine wp_region_gw (by kernel_rfl) (by kernel_rfl) ?_
        repeat (go_big_quiet_step ((go_at_call 47; with_reducible exact quiet_gw (hft.out _ (hX0h.out.trans (g.grown.trans (GW.grown _)))))))
        refine wpQuiet_nil ?_
        intro g2
        go_wp2_with fail
        refine wp_region_gw (by kernel_rfl) (by kernel_rfl) ?_
        repeat (go_big_quiet_step ((go_at_call 48; with_reducible exact quiet_gw (hcd.out _ (hX0h.out.trans (g.grown.trans (g2.grown.trans (GW.grown _))))))))
        refine wpQuiet_nil ?_
        intro g3
        go_wp2_with fail
        have hXe := hide (g.grown.trans (g2.grown.trans g3.grown))
        have hOg := hOc.out.ext hXe.out
        have hO9 : Ob ((((((g3.val.setCell ⟨bc, 0, none⟩ (.int .i64 0)).setCell ⟨bc, 1, none⟩ (.slice none 0 0)).setCell ⟨bc, 2, none⟩ (.int .i64 0)).setCell ⟨bc, 3, none⟩ (.int .i64 0)).setCell ⟨bc, 4, none⟩ (.int .i64 0)).setCell ⟨bc, 5, none⟩ (.int .i64 0)) bc 39 [.int .i64 0, .slice none 0 0, .int .i64 0, .int .i64 0, .int .i64 0, .int .i64 0] := (((((hOg.set 0 _).set 1 _).set 2 _).set 3 _).set 4 _).set 5 _
        have x0 := hO9.cell 0 rfl
        have x1 := hO9.cell 1 rfl
        have x2 := hO9.cell 2 rfl
        have x3 := hO9.cell 3 rfl
        have x4 := hO9.cell 4 rfl
        have x5 := hO9.cell 5 rfl
        refine bodyPost_ret (by simp [results, Tryz.results11, go_sem, x0, x1, x2, x3, x4, x5]; try rfl) rfl ?_
        refine ⟨by first | rfl | simp [zChV], ?_⟩
        repeat refine Ext.setCell ?_ (show w.heap.size ≤ bc from hbc0) _
        exact hX0h.out.trans hXe.out
  · rw [if_neg hK] at hR2
    subst hR2
    have e1 : (R != 0) = true := by rw [bne_iff_ne]; exact hK
    have e2 : (R == 0) = false := by simp [hK]
    clear hcd hft
    go_enter Tryz.func11, Tryz.ntmps11
    go_wp2_with fail
    rw [← hW0h.out]
    try rw [← hbch.out]
    try rw [← hbmh.out]
    first | ((with_reducible refine seq_gw' (hck.out _ hX0h.out) ?_); intro g) | ((with_reducible refine seq_gw (hck.out _ hX0h.out) ?_); intro g)
    go_wp2_with fail
    have hXe := hide (g.grown)
    have hOg := hOc.out.ext hXe.out
    have hO9 : Ob ((((((g.val.setCell ⟨bc, 0, none⟩ (.int .i64 0)).setCell ⟨bc, 1, none⟩ (.slice none 0 0)).setCell ⟨bc, 2, none⟩ (.int .i64 0)).setCell ⟨bc, 3, none⟩ (.int .i64 0)).setCell ⟨bc, 4, none⟩ (.int .i64 0)).setCell ⟨bc, 5, none⟩ (.int .i64 0)) bc 39 [.int .i64 0, .slice none 0 0, .int .i64 0, .int .i64 0, .int .i64 0, .int .i64 0] := (((((hOg.set 0 _).set 1 _).set 2 _).set 3 _).set 4 _).set 5 _
    have x0 := hO9.cell 0 rfl
    have x1 := hO9.cell 1 rfl
    have x2 := hO9.cell 2 rfl
    have x3 := hO9.cell 3 rfl
    have x4 := hO9.cell 4 rfl
    have x5 := hO9.cell 5 rfl
    refine bodyPost_ret (by simp [results, Tryz.results11, go_sem, x0, x1, x2, x3, x4, x5]; try rfl) rfl ?_
    refine ⟨by first | rfl | simp [zChV], ?_⟩
    repeat refine Ext.setCell ?_ (show w.heap.size ≤ bc from hbc0) _
    exact hX0h.out.trans hXe.out
set_option maxHeartbeats 8000000 in
set_option maxRecDepth 100000 in
theorem docPast_yes (base r : Nat) (sv : Value) (S : StD) (ev gv : Value) (L : List Lv) (sc : List Cl) (k i f t : Int) (l : List Vl) (v : Value) (w : World) (h : Sd w base r sv S ev gv L) (hn : L.length ≤ 4000) (hsc : Cw w [] sv sc) (hv : Rw w [] v l) (h0 : resP sc S ((k, i, f, t), l) = 0) (hbs : base ≤ w.heap.size) :
    Calls Tryz.prog 11 #[.pointer (some ⟨r, 0, none⟩), mg k i f t v] w fun e w' => ∃ vr ev' gv' L', e = .returned (.tuple #[chV vr (chg S ((k, i, f, t), l)), .int .i64 0]) ∧ RwO w' vr (chg S ((k, i, f, t), l)).2.1 ∧ Sd w' base r sv (stp S ((k, i, f, t), l)) ev' gv' L' ∧ L'.length ≤ L.length + 1 ∧ Fr (r :: (ob ev ++ ob gv)) w w' := by
  have hE0 := resP_zero h0
  have hkn := hide (fun w' (hX : Ext w w') => refKnown_c base r sv S ev gv L w' (h.ext hX) (by omega))
  have hdt := hide (fun w' (hX : Ext w w') => docTake_c base r sv S ev gv L ((k, i, f, t), l) v w' (h.ext hX) (by omega) (Sl.ext hv hX) (Nat.le_trans hbs hX.size))
  rw [hE0] at hdt
  obtain ⟨CH, hCH⟩ : ∃ CH, CH = chg S ((k, i, f, t), l) := ⟨_, rfl⟩
  rw [← hCH] at hdt ⊢
  replace hCH := hide hCH
  obtain ⟨C1, Cr, ⟨o1, o2⟩, n1, n2⟩ := CH
  have hNl : knwN S.1 S.2 ≤ 4000 := by have h9 := knw_le S.1 S.2; have h10 : S.2.length = L.length := (by rw [← h.evs, List.length_map]); omega
  have hck := hide (fun w' (hX : Ext w w') => refCheck_c k i f t l v w' (Sl.ext hv hX))
  have hcd := hide (fun w' (hX : Ext w w') => docCheck_c base r sv S ev gv L k i f t l v w' (h.ext hX) (by omega) (Sl.ext hv hX))
  have hft := hide (fun w' (hX : Ext w w') => refFitsS_c (Sl.ext hsc hX) (Sl.ext hv hX))
  obtain ⟨VA, vc, rfl⟩ := rw_val hv
  obtain ⟨SA, scap, rfl, -, -, -⟩ := cw_form hsc
  obtain ⟨ll, hll⟩ : ∃ ll, ll = l.length := ⟨_, rfl⟩
  rw [← hll] at hck hcd hft hdt ⊢
  replace hll := hide hll
  obtain ⟨bm, hbm⟩ : ∃ bm, bm = w.heap.size := ⟨_, rfl⟩
  obtain ⟨bc, hbc⟩ : ∃ bc, bc = w.heap.size + 1 := ⟨_, rfl⟩
  obtain ⟨W0, hW0⟩ : ∃ W0, W0 = (w.alloc (.cells #[.int .i64 k, .int .i64 i, .int .i64 f, .int .i64 t, .slice VA ll vc] 44)).alloc (.cells #[.int .i64 0, .slice none 0 0, .int .i64 0, .int .i64 0, .int .i64 0, .int .i64 0] 39) := ⟨_, rfl⟩
  have hX0 : Ext w W0 := by rw [hW0]; exact ((Ext.refl w).alloc _).alloc _
  have hOm : Hid (Ob W0 bm 44 [.int .i64 k, .int .i64 i, .int .i64 f, .int .i64 t, .slice VA ll vc]) := by show Ob _ _ _ _; rw [hW0, hbm]; exact (Ob.new w _ [_, _, _, _, _]).alloc _
  have hOc : Hid (Ob W0 bc 39 [.int .i64 0, .slice none 0 0, .int .i64 0, .int .i64 0, .int .i64 0, .int .i64 0]) := by
    show Ob _ _ _ _
    rw [hW0, hbc, ← World.size_alloc w (.cells #[.int .i64 k, .int .i64 i, .int .i64 f, .int .i64 t, .slice VA ll vc] 44)]
    exact Ob.new _ _ [_, _, _, _, _, _]
  have c0 := (h.ob.ext hX0).cell 0 rfl
  have hX0h := hide hX0
  have m0 := hOm.out.cell 0 rfl
  have m1 := hOm.out.cell 1 rfl
  have m2 := hOm.out.cell 2 rfl
  have m3 := hOm.out.cell 3 rfl
  have m4 := hOm.out.cell 4 rfl
  have w0 := hOc.out.free 0
  have w1 := hOc.out.free 1
  have w2 := hOc.out.free 2
  have w3 := hOc.out.free 3
  have w4 := hOc.out.free 4
  have w5 := hOc.out.free 5
  have oc0 := hOc.out.cell 0 rfl
  have oc1 := hOc.out.cell 1 rfl
  have oc2 := hOc.out.cell 2 rfl
  have oc3 := hOc.out.cell 3 rfl
  have oc4 := hOc.out.cell 4 rfl
  have oc5 := hOc.out.cell 5 rfl
  haveI : In r W0 := ⟨(h.ob.ext hX0).lt⟩
  haveI : In bm W0 := ⟨hOm.out.lt⟩
  haveI : In bc W0 := ⟨hOc.out.lt⟩
  have hbc0 : w.heap.size ≤ bc := by omega
  have hW0h := hide hW0
  have hbmh := hide hbm
  have hbch := hide hbc
  have hh := hide h
  have hR2 := h0
  unfold resP resI mkM at hR2
  rw [hE0] at hcd hR2
  generalize knwN S.1 S.2 = NK at *
  have z1 : ¬ (4096 : Int) ≤ NK := by omega
  have z2 : decide ((4096 : Int) ≤ NK) = false := decide_eq_false z1
  generalize fitsS sc l = FT at *
  generalize mchk k i f t l = K at *
  simp only at hR2
  have hm0 := hide m0
  have hm1 := hide m1
  have hm2 := hide m2
  have hm3 := hide m3
  have hm4 := hide m4
  clear hv hsc h hW0 hbm hbc hX0 h0 hE0
  have hK : K = 0 := by by_cases hK : K = 0; exact hK; rw [if_neg hK] at hR2; exact absurd hR2 hK
  subst hK
  rw [if_pos rfl] at hR2
  by_cases hk : k = 1
  · subst hk
    have hFT : FT = true := by cases FT; rw [if_pos (by simp)] at hR2; cases hR2; rfl
    subst hFT
    clear hR2
    go_enter Tryz.func11, Tryz.ntmps11
    go_wp2_with fail
    rw [← hW0h.out]
    try rw [← hbch.out]
    try rw [← hbmh.out]
    first | ((with_reducible refine seq_gw' (hck.out _ hX0h.out) ?_); intro g) | ((with_reducible refine seq_gw (hck.out _ hX0h.out) ?_); intro g)
    go_wp2_with fail
    refine wp_region_gw (by kernel_rfl) (by kernel_rfl) ?_
    repeat (go_big_quiet_step ((go_at_call 47; with_reducible exact quiet_gw (hft.out _ (hX0h.out.trans (g.grown.trans (GW.grown _)))))))
    refine wpQuiet_nil ?_
    intro g2
    go_wp2_with fail
    refine wp_region_gw (by kernel_rfl) (by kernel_rfl) ?_
    repeat (go_big_quiet_step ((go_at_call 48; with_reducible exact quiet_gw (hcd.out _ (hX0h.out.trans (g.grown.trans (g2.grown.trans (GW.grown _))))))))
    refine wpQuiet_nil ?_
    intro g3
    go_wp2_with (go_at_call 14; first | ((with_reducible refine seq_gw' (hkn.out _ (hX0h.out.trans (g.grown.trans (g2.grown.trans g3.grown)))) ?_); intro g4) | ((with_reducible refine seq_gw (hkn.out _ (hX0h.out.trans (g.grown.trans (g2.grown.trans g3.grown)))) ?_); intro g4))
    have hXv : Hid (Ext W0 g4.val) := by first | exact hide (g.grown.trans (g2.grown.trans (g3.grown.trans g4.grown))) | exact hide (g.grown.trans (g2.grown.trans g4.grown)) | exact hide (g.grown.trans g4.grown) | exact hide g4.grown
    have m0 := hide (cell_later hXv.out hm0.out)
    have m1 := hide (cell_later hXv.out hm1.out)
    have m2 := hide (cell_later hXv.out hm2.out)
    have m3 := hide (cell_later hXv.out hm3.out)
    have m4 := hide (cell_later hXv.out hm4.out)
    have hXw := hide (hX0h.out.trans hXv.out)
    go_region_with (go_at_call 49; refine (hdt.out _ (by repeat (first | exact hXw.out | refine Ext.drewN ?_ _ | refine Ext.drew ?_))).mono ?_; rintro ee w3 ⟨vr, ev', gv', L', rfl, hr3, hS3, hL3, hF3⟩; obtain ⟨CA, cc, er⟩ := rwo_val hr3; subst er; replace hF3 := Fr.trans (S := r :: (ob ev ++ ob gv)) (W := g4.val) (Fr.of_ext (by repeat (first | exact Ext.refl _ | refine Ext.drewN ?_ _ | refine Ext.drew ?_))) hF3; have hO3 := (hOc.out.ext hXv.out).fr hF3 (fun hm => sdNt (hh.out.ext hXw.out) (by decide) (by decide) (by decide) bc hm _ _ (hOc.out.ext hXv.out)); have v0 := hO3.free 0; have v1 := hO3.free 1; have v2 := hO3.free 2; have v3 := hO3.free 3; have v4 := hO3.free 4; have v5 := hO3.free 5; have u0 := hO3.cell 0 rfl; have u1 := hO3.cell 1 rfl; have u2 := hO3.cell 2 rfl; have u3 := hO3.cell 3 rfl; have u4 := hO3.cell 4 rfl; have u5 := hO3.cell 5 rfl; haveI : In bc w3 := ⟨hO3.lt⟩; replace hO3 := hide hO3; replace hr3 := hide hr3; replace hS3 := hide hS3; replace hF3 := hide hF3; dsimp only [chV])
    go_wp2_with fail
    have hO9 : Ob ((((((w3.setCell ⟨bc, 0, none⟩ (.int .i64 C1)).setCell ⟨bc, 1, none⟩ (.slice CA Cr.length cc)).setCell ⟨bc, 2, none⟩ (.int .i64 o1)).setCell ⟨bc, 3, none⟩ (.int .i64 o2)).setCell ⟨bc, 4, none⟩ (.int .i64 n1)).setCell ⟨bc, 5, none⟩ (.int .i64 n2)) bc 39 [.int .i64 C1, .slice CA Cr.length cc, .int .i64 o1, .int .i64 o2, .int .i64 n1, .int .i64 n2] := (((((hO3.out.set 0 _).set 1 _).set 2 _).set 3 _).set 4 _).set 5 _
    have x0 := hO9.cell 0 rfl
    have x1 := hO9.cell 1 rfl
    have x2 := hO9.cell 2 rfl
    have x3 := hO9.cell 3 rfl
    have x4 := hO9.cell 4 rfl
    have x5 := hO9.cell 5 rfl
    have hF9 : Fr [bc] w3 ((((((w3.setCell ⟨bc, 0, none⟩ (.int .i64 C1)).setCell ⟨bc, 1, none⟩ (.slice CA Cr.length cc)).setCell ⟨bc, 2, none⟩ (.int .i64 o1)).setCell ⟨bc, 3, none⟩ (.int .i64 o2)).setCell ⟨bc, 4, none⟩ (.int .i64 n1)).setCell ⟨bc, 5, none⟩ (.int .i64 n2)) := ((((((Fr.refl [bc] w3).setCell _ _ (.inl (by simp))).setCell _ _ (.inl (by simp))).setCell _ _ (.inl (by simp))).setCell _ _ (.inl (by simp))).setCell _ _ (.inl (by simp))).setCell _ _ (.inl (by simp))
    have hnt : ∀ {e : TypeId}, 39 ≠ e → ∀ b ∈ [bc], NT w3 e b := fun he b hb => by rw [List.mem_singleton.1 hb]; exact hO3.out.nt he
    refine bodyPost_ret (by simp [results, Tryz.results11, go_sem, Act.put, x0, x1, x2, x3, x4, x5]; try rfl) rfl ?_
    exact ⟨_, ev', gv', L', rfl, hr3.out.stay hF9 (hnt (by decide)), hS3.out.stay hF9 (fun b hb => ⟨hnt (by decide) b hb, hnt (by decide) b hb, hnt (by decide) b hb, hnt (by decide) b hb⟩), hL3, ((Fr.of_ext hXw.out).trans hF3.out).then hF9 (fun b hb => .inr (by rw [List.mem_singleton.1 hb]; exact hbc0))⟩
  · have q1 : (k == 1) = false := by simp [hk]
    clear hR2 hkn
    go_enter Tryz.func11, Tryz.ntmps11
    go_wp2_with fail
    rw [← hW0h.out]
    try rw [← hbch.out]
    try rw [← hbmh.out]
    first | ((with_reducible refine seq_gw' (hck.out _ hX0h.out) ?_); intro g) | ((with_reducible refine seq_gw (hck.out _ hX0h.out) ?_); intro g)
    go_wp2_with fail
    refine wp_region_gw (by kernel_rfl) (by kernel_rfl) ?_
    repeat (go_big_quiet_step ((go_at_call 47; with_reducible exact quiet_gw (hft.out _ (hX0h.out.trans (g.grown.trans (GW.grown _)))))))
    refine wpQuiet_nil ?_
    intro g2
    go_wp2_with fail
    refine wp_region_gw (by kernel_rfl) (by kernel_rfl) ?_
    repeat (go_big_quiet_step ((go_at_call 48; with_reducible exact quiet_gw (hcd.out _ (hX0h.out.trans (g.grown.trans (g2.grown.trans (GW.grown _))))))))
    refine wpQuiet_nil ?_
    intro g3
    go_wp2_with fail
    have hXv := hide (g.grown.trans (g2.grown.trans g3.grown))
    have m0 := hide (cell_later hXv.out hm0.out)
    have m1 := hide (cell_later hXv.out hm1.out)
    have m2 := hide (cell_later hXv.out hm2.out)
    have m3 := hide (cell_later hXv.out hm3.out)
    have m4 := hide (cell_later hXv.out hm4.out)
    have hXw := hide (hX0h.out.trans hXv.out)
    go_region_with (go_at_call 49; refine (hdt.out _ (by repeat (first | exact hXw.out | refine Ext.drewN ?_ _ | refine Ext.drew ?_))).mono ?_; rintro ee w3 ⟨vr, ev', gv', L', rfl, hr3, hS3, hL3, hF3⟩; obtain ⟨CA, cc, er⟩ := rwo_val hr3; subst er; replace hF3 := Fr.trans (S := r :: (ob ev ++ ob gv)) (W := g3.val) (Fr.of_ext (by repeat (first | exact Ext.refl _ | refine Ext.drewN ?_ _ | refine Ext.drew ?_))) hF3; have hO3 := (hOc.out.ext hXv.out).fr hF3 (fun hm => sdNt (hh.out.ext hXw.out) (by decide) (by decide) (by decide) bc hm _ _ (hOc.out.ext hXv.out)); have v0 := hO3.free 0; have v1 := hO3.free 1; have v2 := hO3.free 2; have v3 := hO3.free 3; have v4 := hO3.free 4; have v5 := hO3.free 5; have u0 := hO3.cell 0 rfl; have u1 := hO3.cell 1 rfl; have u2 := hO3.cell 2 rfl; have u3 := hO3.cell 3 rfl; have u4 := hO3.cell 4 rfl; have u5 := hO3.cell 5 rfl; haveI : In bc w3 := ⟨hO3.lt⟩; replace hO3 := hide hO3; replace hr3 := hide hr3; replace hS3 := hide hS3; replace hF3 := hide hF3; dsimp only [chV])
    go_wp2_with fail
    have hO9 : Ob ((((((w3.setCell ⟨bc, 0, none⟩ (.int .i64 C1)).setCell ⟨bc, 1, none⟩ (.slice CA Cr.length cc)).setCell ⟨bc, 2, none⟩ (.int .i64 o1)).setCell ⟨bc, 3, none⟩ (.int .i64 o2)).setCell ⟨bc, 4, none⟩ (.int .i64 n1)).setCell ⟨bc, 5, none⟩ (.int .i64 n2)) bc 39 [.int .i64 C1, .slice CA Cr.length cc, .int .i64 o1, .int .i64 o2, .int .i64 n1, .int .i64 n2] := (((((hO3.out.set 0 _).set 1 _).set 2 _).set 3 _).set 4 _).set 5 _
    have x0 := hO9.cell 0 rfl
    have x1 := hO9.cell 1 rfl
    have x2 := hO9.cell 2 rfl
    have x3 := hO9.cell 3 rfl
    have x4 := hO9.cell 4 rfl
    have x5 := hO9.cell 5 rfl
    have hF9 : Fr [bc] w3 ((((((w3.setCell ⟨bc, 0, none⟩ (.int .i64 C1)).setCell ⟨bc, 1, none⟩ (.slice CA Cr.length cc)).setCell ⟨bc, 2, none⟩ (.int .i64 o1)).setCell ⟨bc, 3, none⟩ (.int .i64 o2)).setCell ⟨bc, 4, none⟩ (.int .i64 n1)).setCell ⟨bc, 5, none⟩ (.int .i64 n2)) := ((((((Fr.refl [bc] w3).setCell _ _ (.inl (by simp))).setCell _ _ (.inl (by simp))).setCell _ _ (.inl (by simp))).setCell _ _ (.inl (by simp))).setCell _ _ (.inl (by simp))).setCell _ _ (.inl (by simp))
    have hnt : ∀ {e : TypeId}, 39 ≠ e → ∀ b ∈ [bc], NT w3 e b := fun he b hb => by rw [List.mem_singleton.1 hb]; exact hO3.out.nt he
    refine bodyPost_ret (by simp [results, Tryz.results11, go_sem, Act.put, x0, x1, x2, x3, x4, x5]; try rfl) rfl ?_
    exact ⟨_, ev', gv', L', rfl, hr3.out.stay hF9 (hnt (by decide)), hS3.out.stay hF9 (fun b hb => ⟨hnt (by decide) b hb, hnt (by decide) b hb, hnt (by decide) b hb, hnt (by decide) b hb⟩), hL3, ((Fr.of_ext hXw.out).trans hF3.out).then hF9 (fun b hb => .inr (by rw [List.mem_singleton.1 hb]; exact hbc0))⟩
end Go.Proofs.YtajelkkiijdegaaGreat
