/-
  A helper of ours: no claim of its own. Layer 30 (window): the windows and their rows, by the document; and the walk of WindowParts.
-/
import Derived.Test.YtljkneajdndgjaaGreatCouX
import Derived.Test.YtljkneajdndgjaaGreatHopP
import Derived.Test.YtljkneajdndgjaaGreatCouV
set_option linter.unusedVariables false
set_option linter.unusedSimpArgs false
namespace Go.Proofs.YtljkneajdndgjaaGreat
open Go.RowKit
attribute [local go_sem] GW.cell GW.frozen In.eq_true In.le_true In.ne In.ne' In.ne_add In.ne_add' In.lt_add Upto.le_true Upto.le_add Upto.lt_add
set_option maxHeartbeats 8000000 in
set_option maxRecDepth 100000 in
theorem wrefParts_c (k s h : Int) (L : List Ve) (hfw : fewB (eds L) = true) (f t : Int) (v : Value) (w : World) (hC : Ew w [] v L) : Calls Tryz.prog 17 #[wV k s h, v, .int .i64 f, .int .i64 t] w fun e w' => ∃ v' P, e = .returned (.tuple #[v', .int .i64 (wpE k s h (eds L) f t)]) ∧ pts P = wpL k s h (eds L) f t ∧ Pw w' [] v' P ∧ Ext w w' := by
  have hL6 : L.length ≤ 60 := by have := (fewB_iff.1 hfw).1; rwa [show (eds L).length = L.length from List.length_map _] at this
  have hw := hide (fun w' (hX : Ext w w') => wrefCheck_c k s h L t v w' (hC.ext hX))
  have hcp := hide (fun w' (hX : Ext w w') => refCtParts_c L hL6 s f v w' (hC.ext hX))
  have hsp := hide (fun w' (hX : Ext w w') => refSnParts_c L (by omega) f v w' (hC.ext hX))
  have hhp := hide (fun R w' (hX : Ext w w') => refHpParts_c L hfw s h f R v w' (hC.ext hX))
  have hC' := hide hC
  obtain ⟨A, cap, rfl, hlc, hlm, -⟩ := ew_form hC
  unfold maxLen at hlm
  clear hC
  obtain ⟨E, hE⟩ : ∃ E, E = wrE k s h (eds L) t := ⟨_, rfl⟩
  rw [← hE] at hw
  have hb := hide (Ob.new w 24 (wL k s h))
  have c0 := hb.out.cell 0 rfl
  have c1 := hb.out.cell 1 rfl
  have c2 := hb.out.cell 2 rfl
  have hbl := hb.out.lt
  haveI : In w.heap.size (w.alloc (.cells #[.int .i64 k, .int .i64 s, .int .i64 h] 24)) := ⟨hbl⟩
  by_cases hE0 : E = 0
  case neg =>
    have e1 : wpE k s h (eds L) f t = E := by unfold wpE; rw [← hE, if_neg hE0]
    have e2 : wpL k s h (eds L) f t = [] := by unfold wpL; rw [← hE, if_neg hE0]
    rw [e1, e2]
    have hbE : (E != 0) = true := by simpa using hE0
    replace hE := hide hE
    clear e1 e2
    go_enter Tryz.func17, Tryz.ntmps17
    go_wp2_with (go_at_call 35; (with_reducible refine seq_gw (hw.out _ ((Ext.refl w).alloc _)) ?_); intro g1)
    go_returns
    exact ⟨_, [], rfl, rfl, ⟨Sl.nil _ _ _, by simp⟩, ((Ext.refl w).alloc _).trans g1.grown⟩
  subst hE0
  obtain ⟨a1, a2, a3, a4, a5⟩ := wrE_zero hE.symm
  obtain ⟨V, hV⟩ : ∃ V, V = wpE k s h (eds L) f t := ⟨_, rfl⟩
  obtain ⟨U, hU⟩ : ∃ U, U = wpL k s h (eds L) f t := ⟨_, rfl⟩
  rw [← hV, ← hU]
  have hVe : V = if k = 2 then hpE (eds L) s h f (frV (eds L) t) else if k = 3 then cpE (eds L) s f else snE (eds L) f := by rw [hV]; unfold wpE; rw [← hE, if_pos rfl]
  have hUe : U = if k = 2 then hpL (eds L) s h f (frV (eds L) t) else if k = 3 then cpL (eds L) s f else snL (eds L) f := by rw [hU]; unfold wpL; rw [← hE, if_pos rfl]
  clear hV hU
  have hin : Hid (∀ e ∈ eds L, -1 ≤ e.2.1 ∧ e.2.1 < 1125899906842624) := fun e he => mayJ_at (mayJ_jmps a2 e.1) e.2 (by unfold jmps; exact List.mem_map.2 ⟨e, List.mem_filter.2 ⟨he, by simp⟩, rfl⟩)
  rcases wmay_kind a1 with ⟨rfl, -, -⟩ | ⟨rfl, -, -⟩ | ⟨rfl, -, -⟩
  · rw [if_neg (by decide), if_neg (by decide)] at hVe hUe
    rw [← hVe, ← hUe] at hsp
    replace hE := hide hE
    replace hVe := hide hVe
    replace hUe := hide hUe
    clear a1 a2 a3 a4 a5
    go_enter Tryz.func17, Tryz.ntmps17
    go_wp2_with (first | (go_at_call 35; (with_reducible refine seq_gw (hw.out _ ((Ext.refl w).alloc _)) ?_); intro g1) | (go_at_call 42; refine (hsp.out _ (((Ext.refl w).alloc _).trans g1.grown)).mono ?_; rintro ee w5 ⟨v5, P, rfl, hP, ho5, hx5⟩; have hP5 := hide hP; have hX5 := hide ((((Ext.refl w).alloc _).trans g1.grown).trans hx5); have ho6 := hide ho5; obtain ⟨A5, c5, q5, -, -, -⟩ := pw_form ho5; subst q5; clear hP ho5 hx5))
    go_returns
    exact ⟨_, P, rfl, hP5.out, ho6.out, hX5.out⟩
  · rw [if_pos rfl] at hVe hUe
    replace hE := hide hE
    clear a1 a2 a3 a4 a5
    go_enter Tryz.func17, Tryz.ntmps17
    go_wp2_with (first | (go_at_call 35; (with_reducible refine seq_gw (hw.out _ ((Ext.refl w).alloc _)) ?_); intro g1))
    have hX1 := hide (((Ext.refl w).alloc _).trans g1.grown)
    have hb1 := hide (hb.out.ext g1.grown)
    generalize g1.val = W1 at *
    go_loopg [11, 12] L.length (fun gh u i wr => ∃ (j : Nat) (z : Int), i = .int .i64 j ∧ j + gh = L.length ∧ u = .int .i64 z ∧ Hid (z = frV ((eds L).take j) t) ∧ Hid (Ext W1 wr))
    case atStart => exact ⟨0, t, by go_num, by omega, rfl, rfl, Ext.refl _⟩
    case round =>
      obtain ⟨j, z, rfl, hj, rfl, hz, hX⟩ := hrel
      by_cases hlt : j < L.length
      · obtain ⟨⟨u, q, a, d⟩, hd⟩ : ∃ p, L[j]? = some p := ⟨_, List.getElem?_eq_getElem hlt⟩
        obtain ⟨A', cap', e', -, -, hat⟩ := ew_form (hC'.out.ext (hX1.out.trans hX.out))
        simp only [Value.slice.injEq] at e'
        obtain ⟨rfl, -, rfl⟩ := e'
        obtain ⟨b, o, rfl, -, hbb, d0, d1, d2⟩ := hat j _ hd
        simp only at d1 d2
        have hde : (eds L)[j]? = some (q, a, d) := by rw [List.getElem?_map, hd]; rfl
        have hnx := hide (frV_next hde t)
        have hab := hin.out _ (List.mem_of_getElem? hde)
        simp only at hab
        rw [← hz.out] at hnx
        haveI : In b wr := ⟨hbb⟩
        clear hat hd hde d0
        by_cases hd0 : 0 < d
        · by_cases hza : z ≤ a
          · rw [if_pos hd0, show max z (a + 1) = a + 1 by omega] at hnx
            go_wp2_with fail
            go_roundg (L.length - (j + 1))
            case measure => omega
            case rel => exact ⟨j + 1, a + 1, by go_num, by omega, rfl, hnx.out.symm, hX⟩
          · rw [if_pos hd0, show max z (a + 1) = z by omega] at hnx
            go_wp2_with fail
            go_roundg (L.length - (j + 1))
            case measure => omega
            case rel => exact ⟨j + 1, z, by go_num, by omega, rfl, hnx.out.symm, hX⟩
        · rw [if_neg hd0] at hnx
          have hd0b : decide (0 < d) = false := decide_eq_false hd0
          go_wp2_with fail
          go_roundg (L.length - (j + 1))
          case measure => omega
          case rel => exact ⟨j + 1, z, by go_num, by omega, rfl, hnx.out.symm, hX⟩
      · have hfin : z = frV (eds L) t := by rw [hz.out, List.take_of_length_le (by simp [eds]; omega)]
        have hh2 := hide (hhp.out z)
        rw [hfin, ← hVe, ← hUe, ← hfin] at hh2
        have hbw := hb1.out.ext hX.out
        have n0 := hbw.cell 0 rfl
        have n1 := hbw.cell 1 rfl
        have n2 := hbw.cell 2 rfl
        have nl := hbw.lt
        haveI : In w.heap.size wr := ⟨nl⟩
        have hXw := hide (hX1.out.trans hX.out)
        replace hVe := hide hVe
        replace hUe := hide hUe
        replace hfin := hide hfin
        go_wp2_with (go_at_call 26; refine (hh2.out _ hXw.out).mono ?_; rintro ee w5 ⟨v5, P, rfl, hP, ho5, hx5⟩; have hP5 := hide hP; have hX5 := hide (hXw.out.trans hx5); have ho6 := hide ho5; obtain ⟨A5, c5, q5, -, -, -⟩ := pw_form ho5; subst q5; clear hP ho5 hx5)
        go_returns
        exact ⟨_, P, rfl, hP5.out, ho6.out, hX5.out⟩
  · rw [if_neg (by decide), if_pos rfl] at hVe hUe
    rw [← hVe, ← hUe] at hcp
    replace hE := hide hE
    replace hVe := hide hVe
    replace hUe := hide hUe
    clear a1 a2 a3 a4 a5
    go_enter Tryz.func17, Tryz.ntmps17
    go_wp2_with (first | (go_at_call 35; (with_reducible refine seq_gw (hw.out _ ((Ext.refl w).alloc _)) ?_); intro g1) | (go_at_call 43; refine (hcp.out _ (((Ext.refl w).alloc _).trans g1.grown)).mono ?_; rintro ee w5 ⟨v5, P, rfl, hP, ho5, hx5⟩; have hP5 := hide hP; have hX5 := hide ((((Ext.refl w).alloc _).trans g1.grown).trans hx5); have ho6 := hide ho5; obtain ⟨A5, c5, q5, -, -, -⟩ := pw_form ho5; subst q5; clear hP ho5 hx5))
    go_returns
    exact ⟨_, P, rfl, hP5.out, ho6.out, hX5.out⟩
set_option maxHeartbeats 8000000 in
set_option maxRecDepth 100000 in
theorem windowParts_walk (k s h : Int) (L : List Ve) (f t : Int) (v : Value) (w : World) (hC : Ew w [] v L) : Calls Tryz.prog 4 #[wV k s h, v, .int .i64 f, .int .i64 t] w fun e w' => e = .returned (.bool true) ∧ Ext w w' := by
  have hl := hide (fun w => wLive_c w)
  have hX0 := hide ((Ext.refl w).alloc (.cells #[.int .i64 k, .int .i64 s, .int .i64 h] 24))
  have hfw := hide (fun w' (hX : Ext w w') => wfew_c L v w' (hC.ext hX))
  have hcu := hide (fun w' (hX : Ext w w') => wparts_c k s h L f t v w' (hC.ext hX))
  have hre := hide (fun (hf : fewB (eds L) = true) w' (hX : Ext w w') => wrefParts_c k s h L hf f t v w' (hC.ext hX))
  obtain ⟨A, cap, rfl, hlc, hlm, -⟩ := ew_form hC
  clear hC
  have hb := hide (Ob.new w 24 (wL k s h))
  have c0 := hb.out.cell 0 rfl
  have c1 := hb.out.cell 1 rfl
  have c2 := hb.out.cell 2 rfl
  have hbl := hb.out.lt
  haveI : In w.heap.size (w.alloc (.cells #[.int .i64 k, .int .i64 s, .int .i64 h] 24)) := ⟨hbl⟩
  obtain ⟨E, hE⟩ : ∃ E, E = wpE k s h (eds L) f t := ⟨_, rfl⟩
  obtain ⟨c, hc⟩ : ∃ c, c = wpL k s h (eds L) f t := ⟨_, rfl⟩
  rw [← hE, ← hc] at hcu hre
  replace hE := hide hE
  replace hc := hide hc
  have hEE : (E == E) = true := by simp
  cases h60 : fewB (eds L)
  · rw [h60] at hfw
    clear h60 hre
    go_enter Tryz.func4, Tryz.ntmps4
    go_wp2_with (first | (go_at_call 10; (with_reducible refine seq_gw (hfw.out _ hX0.out) ?_); intro g) | (go_at_call 11; (with_reducible refine seq_gw (hl.out _) ?_); intro g2))
    go_returns
    exact ⟨by first | rfl | simp, (hX0.out.trans g.grown).trans g2.grown⟩
  rw [h60] at hfw
  have hre := hide (hre.out h60)
  clear h60
  go_enter Tryz.func4, Tryz.ntmps4
  go_wp2_with (first | (go_at_call 10; (with_reducible refine seq_gw (hfw.out _ hX0.out) ?_); intro g; have hX1 := hide (hX0.out.trans g.grown); have hb1 := hide (hb.out.ext g.grown)) | (go_at_call 16; refine (hcu.out _ hX1.out).mono ?_; rintro ee w4 ⟨v4, P4, rfl, hP4, ho4, hx4⟩; have hx5 := hide (hX1.out.trans hx4); have hQ4 := hide hP4; have ho5 := hide ho4; (have b4 := hb1.out.ext hx4); (have i4 : In w.heap.size w4 := ⟨b4.lt⟩); have y0 := b4.cell 0 rfl; have y1 := b4.cell 1 rfl; have y2 := b4.cell 2 rfl; clear b4; obtain ⟨A4, c4, q4⟩ := ho4.form; subst q4; clear ho4 hx4 hP4) | (go_at_call 17; refine (hre.out _ hx5.out).mono ?_; rintro ee w6 ⟨v6, P6, rfl, hP6, hz6, hx6⟩; have hx7 := hide (hx5.out.trans hx6); have hQ6 := hide hP6; have hz7 := hide hz6; have ho7 := hide (ho5.out.ext hx6); obtain ⟨A6, c6, q6, -, -, -⟩ := pw_form hz6; subst q6; clear hz6 hx6 hP6) | (go_at_call 11; (with_reducible refine seq_gw (hl.out _) ?_); intro g8) | (go_at_call 18; (with_reducible refine seq_gw (refSameParts_c P4 P6 (hQ4.out.trans hQ6.out.symm) _ _ _ (ho7.out.ext g8.grown).pw (hz7.out.ext g8.grown)) ?_); intro g9))
  go_returns
  exact ⟨by first | rfl | simp, (hx7.out.trans g8.grown).trans g9.grown⟩
end Go.Proofs.YtljkneajdndgjaaGreat
