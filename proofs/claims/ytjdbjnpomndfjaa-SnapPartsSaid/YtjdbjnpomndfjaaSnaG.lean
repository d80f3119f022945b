/-
  A helper of ours: no claim of its own. Layer 27 (snap): where a table changes, by the document; and the walk of the law SnapCuts.
-/
import Derived.Test.YtjdbjnpomndfjaaEdgQ
import Derived.Test.YtjdbjnpomndfjaaEdgMy
set_option linter.unusedVariables false
set_option linter.unusedSimpArgs false
namespace Go.Proofs.Ytjdbjnpomndfjaa
open Go.RowKit
attribute [local go_sem] GW.cell GW.frozen In.eq_true In.le_true In.ne In.ne' In.ne_add In.ne_add' In.lt_add Upto.le_true Upto.le_add Upto.lt_add
theorem srefTick_c (n : Int) (w : World) : Calls Try.prog 49 #[.int .i64 n] w fun e w' => e = .returned (.bool (stick n)) ∧ Ext w w' := by
  by_cases h0 : 0 ≤ n <;> by_cases h1 : n ≤ 1125899906842624
  all_goals
    go_enter Try.func49, Try.ntmps49
    go_wp2_with fail
    go_returns
    exact ⟨by first | rfl | (simp [stick, h0, h1]; done) | (simp [stick]; omega), Ext.refl _⟩
set_option maxHeartbeats 8000000 in
set_option maxRecDepth 100000 in
theorem refCuts_c (L : List Ve) (hLs : L.length ≤ 4000) (f : Int) (v : Value) (w : World) (hC : Ew w [] v L) : Calls Try.prog 18 #[v, .int .i64 f] w fun e w' => ∃ v', e = .returned (.tuple #[v', .int .i64 (cuE (eds L) f)]) ∧ Zw w' [] v' (cuL (eds L) f) ∧ Ext w w' := by
  have h1 := hide (fun w' (hX : Ext w w') => refEdgeMay_c L v w' (hC.ext hX))
  have h2 := hide (fun w' (hX : Ext w w') => refEdgeTable_c L v w' (hC.ext hX))
  have h3 := hide (fun w' => srefTick_c f w')
  have hC' := hide hC
  obtain ⟨A, cap, rfl, hlc, hlm, -⟩ := ew_form hC
  unfold maxLen at hlm
  clear hC
  cases ha : mayE (eds L)
  · have e1 : cuE (eds L) f = 2 := by unfold cuE; rw [ha]; rfl
    have e2 : cuL (eds L) f = [] := by unfold cuL; rw [e1]; rfl
    rw [e1, e2]
    rw [ha] at h1
    clear ha e1 e2
    go_enter Try.func18, Try.ntmps18
    go_wp2_with (go_at_call 47; (with_reducible refine seq_gw (h1.out _ (Ext.refl _)) ?_); intro g)
    go_returns
    exact ⟨_, rfl, Sl.nil _ _ _, g.grown⟩
  rw [ha] at h1
  cases hb : tabE (eds L)
  · have e1 : cuE (eds L) f = 20 := by unfold cuE; rw [ha, hb]; rfl
    have e2 : cuL (eds L) f = [] := by unfold cuL; rw [e1]; rfl
    rw [e1, e2]
    rw [hb] at h2
    clear ha hb e1 e2
    go_enter Try.func18, Try.ntmps18
    go_wp2_with (first | (go_at_call 47; (with_reducible refine seq_gw (h1.out _ (Ext.refl _)) ?_); intro g) | (go_at_call 48; (with_reducible refine seq_gw' (h2.out _ g.grown) ?_); intro g2))
    go_returns
    exact ⟨_, rfl, Sl.nil _ _ _, g2.grown⟩
  rw [hb] at h2
  cases e0 : stick f
  · have e1 : cuE (eds L) f = 13 := by unfold cuE; rw [ha, hb, e0]; rfl
    have e2 : cuL (eds L) f = [] := by unfold cuL; rw [e1]; rfl
    rw [e1, e2]
    rw [e0] at h3
    clear ha hb e0 e1 e2
    go_enter Try.func18, Try.ntmps18
    go_wp2_with (first | (go_at_call 47; (with_reducible refine seq_gw (h1.out _ (Ext.refl _)) ?_); intro g) | (go_at_call 48; (with_reducible refine seq_gw' (h2.out _ g.grown) ?_); intro g2) | (go_at_call 49; (with_reducible refine seq_gw' (h3.out _) ?_); intro g3))
    go_returns
    exact ⟨_, rfl, Sl.nil _ _ _, g3.grown⟩
  rw [e0] at h3
  have e1 : cuE (eds L) f = 0 := by unfold cuE; rw [ha, hb, e0]; rfl
  rw [e1]
  by_cases hF : f = 1125899906842624
  · have e2 : cuL (eds L) f = [] := by unfold cuL; rw [e1, if_pos rfl, if_pos hF]
    rw [e2]
    subst hF
    clear ha hb e0 e1 e2
    go_enter Try.func18, Try.ntmps18
    go_wp2_with (first | (go_at_call 47; (with_reducible refine seq_gw (h1.out _ (Ext.refl _)) ?_); intro g) | (go_at_call 48; (with_reducible refine seq_gw' (h2.out _ g.grown) ?_); intro g2) | (go_at_call 49; (with_reducible refine seq_gw' (h3.out _) ?_); intro g3))
    go_returns
    exact ⟨_, rfl, Sl.nil _ _ _, g3.grown⟩
  have e2 : cuL (eds L) f = cutP (eds L) f := by unfold cuL; rw [e1, if_pos rfl, if_neg hF]
  rw [e2]
  have hbF : (f == 1125899906842624) = false := by simpa using hF
  clear ha hb e0 e1 e2
  go_enter Try.func18, Try.ntmps18
  go_wp2_with (first | (go_at_call 47; (with_reducible refine seq_gw (h1.out _ (Ext.refl _)) ?_); intro g) | (go_at_call 48; (with_reducible refine seq_gw' (h2.out _ g.grown) ?_); intro g2) | (go_at_call 49; (with_reducible refine seq_gw' (h3.out _) ?_); intro g3))
  have hz0 := hide (show Zw (g3.val.alloc (.cells #[.int .i64 f] 3)) [] (.slice (some ⟨g3.val.heap.size, 0, none⟩) 1 1) (cutP ((eds L).take 0) f) from sl_lit g3.val 3 1 [.int .i64 f] rfl)
  have hX3 := hide (show Ext w (g3.val.alloc (.cells #[.int .i64 f] 3)) from g3.grown.alloc _)
  clear h1 h2 h3
  go_loopg [6, 7] L.length (fun gh u i wr => ∃ (k : Nat), i = .int .i64 k ∧ k + gh = L.length ∧ Hid (Zw wr [] u (cutP ((eds L).take k) f)) ∧ Hid (Ext w wr))
  case atStart => exact ⟨0, by go_num, by omega, hz0, hX3⟩
  case round =>
    clear hz0 hX3
    obtain ⟨k, rfl, hk, hZ, hX⟩ := hrel
    obtain ⟨ZA, zc, hu, -, -, -⟩ := zw_form hZ.out
    obtain ⟨K, hK⟩ : ∃ K, K = cutP ((eds L).take k) f := ⟨_, rfl⟩
    have hKl : K.length ≤ 4001 := by rw [hK]; have := cutP_len ((eds L).take k) f; have h8 : ((eds L).take k).length ≤ k := (by rw [List.length_take]; omega); omega
    have hKa := hide (show K.Pairwise (· < ·) by rw [hK]; exact cutP_asc _ _)
    rw [← hK] at hZ hu
    subst hu
    by_cases hlt : k < L.length
    · obtain ⟨⟨u, q, a, d⟩, hd⟩ : ∃ p, L[k]? = some p := ⟨_, List.getElem?_eq_getElem hlt⟩
      obtain ⟨A', cap', e', -, -, hat⟩ := ew_form (hC'.out.ext hX.out)
      simp only [Value.slice.injEq] at e'
      obtain ⟨rfl, -, rfl⟩ := e'
      obtain ⟨b, o, rfl, -, hbl, c0, c1, c2⟩ := hat k _ hd
      simp only at c1
      have hde : (eds L)[k]? = some (q, a, d) := by rw [List.getElem?_map, hd]; rfl
      have hnx := hide (cutP_next hde f)
      rw [← hK] at hnx
      replace hK := hide hK
      haveI : In b wr := ⟨hbl⟩
      have hX' := hide hX.out
      have hw := hide (with_c K hKa.out (by omega) a (.slice ZA K.length zc) wr hZ.out)
      clear hat hd hde
      by_cases hfa : f < a
      · rw [if_pos hfa] at hnx
        go_wp2_with (go_at_call 50; refine hw.out.mono ?_; rintro ee w5 ⟨v5, rfl, hz5, hX5⟩; have hz6 := hide hz5; have hX6 := hide (hX.out.trans hX5); clear hz5 hX5)
        go_roundg (L.length - (k + 1))
        case measure => omega
        case rel => exact ⟨k + 1, by go_num, by omega, by rw [hnx.out]; exact hz6.out, hX6⟩
      · rw [if_neg hfa] at hnx
        go_wp2_with fail
        go_roundg (L.length - (k + 1))
        case measure => omega
        case rel => exact ⟨k + 1, by go_num, by omega, by rw [hnx.out]; exact hZ.out, hX⟩
    · have hfin := hide (show K = cutP (eds L) f by rw [hK, List.take_of_length_le (by simp [eds]; omega)])
      replace hK := hide hK
      go_wp2_with fail
      go_returns
      exact ⟨_, rfl, by rw [← hfin.out]; exact hZ.out, hX.out⟩
set_option maxHeartbeats 2000000 in
theorem snFew_c (L : List Ve) (v : Value) (w : World) (hC : Ew w [] v L) : Calls Try.prog 15 #[v] w fun e w' => e = .returned (.bool (decide (L.length ≤ 60))) ∧ Ext w w' := by
  obtain ⟨A, cap, rfl, hlc, hlm, -⟩ := ew_form hC
  unfold maxLen at hlm
  clear hC
  by_cases h : L.length ≤ 60
  all_goals
    go_enter Try.func15, Try.ntmps15
    go_wp2_with fail
    go_returns
    exact ⟨by first | rfl | (simp [h]; done) | (simp; omega), Ext.refl _⟩
set_option maxHeartbeats 8000000 in
set_option maxRecDepth 100000 in
theorem snapCuts_walk (L : List Ve) (f : Int) (v : Value) (w : World) (hC : Ew w [] v L) : Calls Try.prog 3 #[v, .int .i64 f] w fun e w' => e = .returned (.bool true) ∧ Ext w w' := by
  have hl := hide (fun w => snLive_c w)
  have hfw := hide (fun w' (hX : Ext w w') => snFew_c L v w' (hC.ext hX))
  have hcu := hide (fun w' (hX : Ext w w') => snCuts_c L f v w' (hC.ext hX))
  have hre := hide (fun (h : L.length ≤ 60) w' (hX : Ext w w') => refCuts_c L (by omega) f v w' (hC.ext hX))
  have hcl := cuL_len (eds L) f
  rw [show (eds L).length = L.length from List.length_map _] at hcl
  obtain ⟨A, cap, rfl, hlc, hlm, -⟩ := ew_form hC
  unfold maxLen at hlm
  clear hC
  obtain ⟨E, hE⟩ : ∃ E, E = cuE (eds L) f := ⟨_, rfl⟩
  obtain ⟨c, hc⟩ : ∃ c, c = cuL (eds L) f := ⟨_, rfl⟩
  rw [← hc] at hcl
  rw [← hE, ← hc] at hcu hre
  replace hE := hide hE
  replace hc := hide hc
  by_cases h60 : L.length ≤ 60
  case neg =>
    rw [decide_eq_false h60] at hfw
    go_enter Try.func3, Try.ntmps3
    go_wp2_with (first | (go_at_call 15; (with_reducible refine seq_gw (hfw.out _ (Ext.refl _)) ?_); intro g) | (go_at_call 16; (with_reducible refine seq_gw' (hl.out _) ?_); intro g2))
    go_returns
    exact ⟨rfl, g2.grown⟩
  rw [decide_eq_true h60] at hfw
  go_enter Try.func3, Try.ntmps3
  have hEE : (E != E) = false := by simp
  go_wp2_with (first | (go_at_call 15; (with_reducible refine seq_gw (hfw.out _ (Ext.refl _)) ?_); intro g) | (go_at_call 17; refine (hcu.out _ g.grown).mono ?_; rintro ee w4 ⟨v4, rfl, ho4, hx4⟩; have hx5 := hide (g.grown.trans hx4); have ho5 := hide ho4; obtain ⟨A4, c4, q4⟩ := own_form ho4; subst q4; clear ho4 hx4) | (go_at_call 18; refine (hre.out h60 _ hx5.out).mono ?_; rintro ee w6 ⟨v6, rfl, hz6, hx6⟩; have hx7 := hide (hx5.out.trans hx6); have hz7 := hide hz6; have ho7 := hide (own_ext ho5.out hx6); obtain ⟨A6, c6, q6, -, -, -⟩ := zw_form hz6; subst q6; clear hz6 hx6))
  go_loopg [9] c.length (fun gh i wr => ∃ (k : Nat), i = .int .i64 k ∧ k + gh = c.length ∧ Hid (Ext w6 wr))
  case atStart => exact ⟨0, by go_num, by omega, Ext.refl _⟩
  case round =>
    obtain ⟨k, rfl, hk, hX⟩ := hrel
    by_cases hlt : k < c.length
    · obtain ⟨t, ht⟩ : ∃ t, c[k]? = some t := ⟨_, List.getElem?_eq_getElem hlt⟩
      obtain ⟨A', cp', e', -, -, hat⟩ := zw_form (own_zw (own_ext ho7.out hX.out))
      simp only [Value.slice.injEq] at e'
      obtain ⟨rfl, -, rfl⟩ := e'
      obtain ⟨b, o, rfl, -, hbl, c0⟩ := hat k t ht
      obtain ⟨A', cp', e', -, -, hat2⟩ := zw_form (Sl.ext hz7.out hX.out)
      simp only [Value.slice.injEq] at e'
      obtain ⟨rfl, -, rfl⟩ := e'
      obtain ⟨b2, o2, rfl, -, hbl2, c2⟩ := hat2 k t ht
      haveI : In b wr := ⟨hbl⟩
      haveI : In b2 wr := ⟨hbl2⟩
      have htt : (t != t) = false := by simp
      clear hat hat2 ht
      go_wp2_with fail
      refine wp_region_gw (by kernel_rfl) (by kernel_rfl) ?_
      repeat (go_big_quiet_step (fail))
      refine wpQuiet_nil ?_
      intro g8
      go_wp2_with fail
      go_roundg (c.length - (k + 1))
      case measure => omega
      case rel => exact ⟨k + 1, by go_num, by omega, hX.out.trans g8.grown⟩
    · go_wp2_with (go_at_call 16; (with_reducible refine seq_gw (hl.out _) ?_); intro g9)
      go_returns
      exact ⟨rfl, (hx7.out.trans hX.out).trans g9.grown⟩
end Go.Proofs.Ytjdbjnpomndfjaa
