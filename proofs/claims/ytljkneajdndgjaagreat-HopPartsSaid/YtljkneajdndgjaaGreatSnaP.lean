/-
  A helper of ours: no claim of its own. Layer 27 (snap): the rows that are there at a tick, by the document.
-/
import Derived.Test.YtljkneajdndgjaaGreatHopT
import Derived.Test.YtljkneajdndgjaaGreatEdgMy
import Derived.Test.YtljkneajdndgjaaGreatSnaM
import Derived.Test.YtljkneajdndgjaaGreatRowD
import Derived.Test.YtljkneajdndgjaaGreatSnaD
import Derived.Test.YtljkneajdndgjaaGreatEdgRo
import Derived.Test.YtljkneajdndgjaaGreatHopPartsF
import Derived.Test.YtljkneajdndgjaaGreatStepE
set_option linter.unusedVariables false
set_option linter.unusedSimpArgs false
namespace Go.Proofs.YtljkneajdndgjaaGreat
open Go.RowKit
attribute [local go_sem] GW.cell GW.frozen In.eq_true In.le_true In.ne In.ne' In.ne_add In.ne_add' In.lt_add Upto.le_true Upto.le_add Upto.lt_add
theorem srefTick_c (n : Int) (w : World) : Calls Tryz.prog 63 #[.int .i64 n] w fun e w' => e = .returned (.bool (stick n)) ∧ Ext w w' := by
  by_cases h0 : 0 ≤ n <;> by_cases h1 : n ≤ 1125899906842624
  all_goals
    go_enter Tryz.func63, Tryz.ntmps63
    go_wp2_with fail
    go_returns
    exact ⟨by first | rfl | (simp [stick, h0, h1]; done) | (simp [stick]; omega), Ext.refl _⟩
set_option maxHeartbeats 8000000 in
set_option maxRecDepth 100000 in
theorem refCuts_c (L : List Ve) (hLs : L.length ≤ 4000) (f : Int) (v : Value) (w : World) (hC : Ew w [] v L) : Calls Tryz.prog 95 #[v, .int .i64 f] w fun e w' => ∃ v', e = .returned (.tuple #[v', .int .i64 (cuE (eds L) f)]) ∧ Zw w' [] v' (cuL (eds L) f) ∧ Ext w w' := by
  have h1 := hide (fun w' (hX : Ext w w') => refEdgeMay_c L v w' (hC.ext hX))
  have h2 := hide (fun w' (hX : Ext w w') => refEdgeTable_c L v w' (hC.ext hX))
  have h3 := hide (fun w' => srefTick_c f w')
  have hC' := hide hC
  obtain ⟨A, cap, rfl, hlc, hlm, -⟩ := ew_form hC
  unfold maxLen at hlm
  clear hC
  cases ha : mayE (eds L)
  · have e1 : cuE (eds L) f = 2 := by unfold cuE; rw [ha]; rfl
    have e2 : cuL (eds L) f = [] := by unfold cuL; rw [e1]; rfl
    rw [e1, e2]
    rw [ha] at h1
    clear ha e1 e2
    go_enter Tryz.func95, Tryz.ntmps95
    go_wp2_with (go_at_call 61; (with_reducible refine seq_gw (h1.out _ (Ext.refl _)) ?_); intro g)
    go_returns
    exact ⟨_, rfl, Sl.nil _ _ _, g.grown⟩
  rw [ha] at h1
  cases hb : tabE (eds L)
  · have e1 : cuE (eds L) f = 20 := by unfold cuE; rw [ha, hb]; rfl
    have e2 : cuL (eds L) f = [] := by unfold cuL; rw [e1]; rfl
    rw [e1, e2]
    rw [hb] at h2
    clear ha hb e1 e2
    go_enter Tryz.func95, Tryz.ntmps95
    go_wp2_with (first | (go_at_call 61; (with_reducible refine seq_gw (h1.out _ (Ext.refl _)) ?_); intro g) | (go_at_call 62; (with_reducible refine seq_gw' (h2.out _ g.grown) ?_); intro g2))
    go_returns
    exact ⟨_, rfl, Sl.nil _ _ _, g2.grown⟩
  rw [hb] at h2
  cases e0 : stick f
  · have e1 : cuE (eds L) f = 13 := by unfold cuE; rw [ha, hb, e0]; rfl
    have e2 : cuL (eds L) f = [] := by unfold cuL; rw [e1]; rfl
    rw [e1, e2]
    rw [e0] at h3
    clear ha hb e0 e1 e2
    go_enter Tryz.func95, Tryz.ntmps95
    go_wp2_with (first | (go_at_call 61; (with_reducible refine seq_gw (h1.out _ (Ext.refl _)) ?_); intro g) | (go_at_call 62; (with_reducible refine seq_gw' (h2.out _ g.grown) ?_); intro g2) | (go_at_call 63; (with_reducible refine seq_gw' (h3.out _) ?_); intro g3))
    go_returns
    exact ⟨_, rfl, Sl.nil _ _ _, g3.grown⟩
  rw [e0] at h3
  have e1 : cuE (eds L) f = 0 := by unfold cuE; rw [ha, hb, e0]; rfl
  rw [e1]
  by_cases hF : f = 1125899906842624
  · have e2 : cuL (eds L) f = [] := by unfold cuL; rw [e1, if_pos rfl, if_pos hF]
    rw [e2]
    subst hF
    clear ha hb e0 e1 e2
    go_enter Tryz.func95, Tryz.ntmps95
    go_wp2_with (first | (go_at_call 61; (with_reducible refine seq_gw (h1.out _ (Ext.refl _)) ?_); intro g) | (go_at_call 62; (with_reducible refine seq_gw' (h2.out _ g.grown) ?_); intro g2) | (go_at_call 63; (with_reducible refine seq_gw' (h3.out _) ?_); intro g3))
    go_returns
    exact ⟨_, rfl, Sl.nil _ _ _, g3.grown⟩
  have e2 : cuL (eds L) f = cutP (eds L) f := by unfold cuL; rw [e1, if_pos rfl, if_neg hF]
  rw [e2]
  have hbF : (f == 1125899906842624) = false := by simpa using hF
  clear ha hb e0 e1 e2
  go_enter Tryz.func95, Tryz.ntmps95
  go_wp2_with (first | (go_at_call 61; (with_reducible refine seq_gw (h1.out _ (Ext.refl _)) ?_); intro g) | (go_at_call 62; (with_reducible refine seq_gw' (h2.out _ g.grown) ?_); intro g2) | (go_at_call 63; (with_reducible refine seq_gw' (h3.out _) ?_); intro g3))
  have hz0 := hide (show Zw (g3.val.alloc (.cells #[.int .i64 f] 3)) [] (.slice (some ⟨g3.val.heap.size, 0, none⟩) 1 1) (cutP ((eds L).take 0) f) from sl_lit g3.val 3 1 [.int .i64 f] rfl)
  have hX3 := hide (show Ext w (g3.val.alloc (.cells #[.int .i64 f] 3)) from g3.grown.alloc _)
  clear h1 h2 h3
  go_loopg [6, 7] L.length (fun gh u i wr => ∃ (k : Nat), i = .int .i64 k ∧ k + gh = L.length ∧ Hid (Zw wr [] u (cutP ((eds L).take k) f)) ∧ Hid (Ext w wr))
  case atStart => exact ⟨0, by go_num, by omega, hz0, hX3⟩
  case round =>
    clear hz0 hX3
    obtain ⟨k, rfl, hk, hZ, hX⟩ := hrel
    obtain ⟨ZA, zc, hu, -, -, -⟩ := zw_form hZ.out
    obtain ⟨K, hK⟩ : ∃ K, K = cutP ((eds L).take k) f := ⟨_, rfl⟩
    have hKl : K.length ≤ 4001 := by rw [hK]; have := cutP_len ((eds L).take k) f; have h8 : ((eds L).take k).length ≤ k := (by rw [List.length_take]; omega); omega
    have hKa := hide (show K.Pairwise (· < ·) by rw [hK]; exact cutP_asc _ _)
    rw [← hK] at hZ hu
    subst hu
    by_cases hlt : k < L.length
    · obtain ⟨⟨u, q, a, d⟩, hd⟩ : ∃ p, L[k]? = some p := ⟨_, List.getElem?_eq_getElem hlt⟩
      obtain ⟨A', cap', e', -, -, hat⟩ := ew_form (hC'.out.ext hX.out)
      simp only [Value.slice.injEq] at e'
      obtain ⟨rfl, -, rfl⟩ := e'
      obtain ⟨b, o, rfl, -, hbl, c0, c1, c2⟩ := hat k _ hd
      simp only at c1
      have hde : (eds L)[k]? = some (q, a, d) := by rw [List.getElem?_map, hd]; rfl
      have hnx := hide (cutP_next hde f)
      rw [← hK] at hnx
      replace hK := hide hK
      haveI : In b wr := ⟨hbl⟩
      have hX' := hide hX.out
      have hw := hide (with_c K hKa.out (by omega) a (.slice ZA K.length zc) wr hZ.out)
      clear hat hd hde
      by_cases hfa : f < a
      · rw [if_pos hfa] at hnx
        go_wp2_with (go_at_call 68; refine hw.out.mono ?_; rintro ee w5 ⟨v5, rfl, hz5, hX5⟩; have hz6 := hide hz5; have hX6 := hide (hX.out.trans hX5); clear hz5 hX5)
        go_roundg (L.length - (k + 1))
        case measure => omega
        case rel => exact ⟨k + 1, by go_num, by omega, by rw [hnx.out]; exact hz6.out, hX6⟩
      · rw [if_neg hfa] at hnx
        go_wp2_with fail
        go_roundg (L.length - (k + 1))
        case measure => omega
        case rel => exact ⟨k + 1, by go_num, by omega, by rw [hnx.out]; exact hZ.out, hX⟩
    · have hfin := hide (show K = cutP (eds L) f by rw [hK, List.take_of_length_le (by simp [eds]; omega)])
      replace hK := hide hK
      go_wp2_with fail
      go_returns
      exact ⟨_, rfl, by rw [← hfin.out]; exact hZ.out, hX.out⟩
end Go.Proofs.YtljkneajdndgjaaGreat
set_option linter.unusedVariables false
set_option linter.unusedSimpArgs false
namespace Go.Proofs.YtljkneajdndgjaaGreat
open Go.RowKit
attribute [local go_sem] GW.cell GW.frozen In.eq_true In.le_true In.ne In.ne' In.ne_add In.ne_add' In.lt_add Upto.le_true Upto.le_add Upto.lt_add
theorem cps_at {L M : List Vc} (h : cps L = cps M) {k : Nat} {c d : Vc} (hc : L[k]? = some c) (hd : M[k]? = some d) : c.2 = d.2 := by
  have h1 : (cps L)[k]? = (cps M)[k]? := by rw [h]
  rw [List.getElem?_map, List.getElem?_map, hc, hd] at h1
  simpa using h1
set_option maxHeartbeats 8000000 in
set_option maxRecDepth 100000 in
theorem refSameCopies_c (L M : List Vc) (hLM : cps L = cps M) (v u : Value) (w : World) (hL : Cw w [] v L) (hM : Cw w [] u M) : Calls Tryz.prog 44 #[v, u] w fun e w' => e = .returned (.bool true) ∧ Ext w w' := by
  have hlen : M.length = L.length := by have := congrArg List.length hLM; simpa using this.symm
  have hL' := hide hL
  have hM' := hide hM
  obtain ⟨A, cap, rfl, hlc, hlm, -⟩ := cw_form hL
  obtain ⟨A2, cap2, rfl, -, -, -⟩ := cw_form hM
  unfold maxLen at hlm
  rw [hlen] at hM' ⊢
  have hMh := hide hlen
  clear hL hM hlen
  have hnn : ((L.length : Int) != (L.length : Int)) = false := by simp
  go_enter Tryz.func44, Tryz.ntmps44
  go_wp2_with fail
  go_loopg [5] L.length (fun gh i wr => ∃ (k : Nat), i = .int .i64 k ∧ k + gh = L.length ∧ Hid (Ext w wr))
  case atStart => exact ⟨0, by go_num, by omega, Ext.refl _⟩
  case round =>
    obtain ⟨k, rfl, hk, hX⟩ := hrel
    by_cases hlt : k < L.length
    · obtain ⟨⟨x, q, n⟩, hd⟩ : ∃ p, L[k]? = some p := ⟨_, List.getElem?_eq_getElem hlt⟩
      obtain ⟨⟨y, q2, n2⟩, hd2⟩ : ∃ p, M[k]? = some p := ⟨_, List.getElem?_eq_getElem (by rw [hMh.out]; exact hlt)⟩
      have e := cps_at hLM hd hd2
      simp only [Prod.mk.injEq] at e
      obtain ⟨rfl, rfl⟩ := e
      obtain ⟨A', cap', e', -, -, hat⟩ := cw_form (hL'.out.ext hX.out)
      simp only [Value.slice.injEq] at e'
      obtain ⟨rfl, -, rfl⟩ := e'
      obtain ⟨b, o, rfl, -, hbl, c0, c1⟩ := hat k _ hd
      obtain ⟨A', cap', e', -, -, hat2⟩ := cw_form (hM'.out.ext hX.out)
      simp only [Value.slice.injEq] at e'
      obtain ⟨rfl, -, rfl⟩ := e'
      obtain ⟨b2, o2, rfl, -, hbl2, d0, d1⟩ := hat2 k _ hd2
      have hr := (hL'.out.ext hX.out).2 _ (List.mem_of_getElem? hd)
      have hr2 := (hM'.out.ext hX.out).2 _ (List.mem_of_getElem? hd2)
      simp only at hr hr2 c0 c1 d0 d1
      obtain ⟨RA, rcap, rfl⟩ := rw_val hr
      obtain ⟨RB, rcap2, rfl⟩ := rw_val hr2
      have hs := hide (fun (g : GW wr) => refRowSame_c (Sl.ext hr g.grown) (Sl.ext hr2 g.grown))
      rw [decide_eq_true rfl] at hs
      haveI : In b wr := ⟨hbl⟩
      haveI : In b2 wr := ⟨hbl2⟩
      have hn2 : (n != n) = false := by simp
      clear hat hat2 hd hd2 hr hr2 hLM
      go_wp2_with fail
      refine wp_region_gw (by kernel_rfl) (by kernel_rfl) ?_
      repeat (go_big_quiet_step ((go_at_call 49; with_reducible exact quiet_gw (hs.out _))))
      refine wpQuiet_nil ?_
      intro g8
      go_wp2_with fail
      go_roundg (L.length - (k + 1))
      case measure => omega
      case rel => exact ⟨k + 1, by go_num, by omega, hX.out.trans g8.grown⟩
    · go_wp2_with fail
      go_returns
      exact ⟨rfl, hX.out⟩
theorem pts_at {L M : List Vp} (h : pts L = pts M) {k : Nat} {c d : Vp} (hc : L[k]? = some c) (hd : M[k]? = some d) : c.2.1 = d.2.1 ∧ cps c.2.2 = cps d.2.2 := by
  have h1 : (pts L)[k]? = (pts M)[k]? := by rw [h]
  rw [List.getElem?_map, List.getElem?_map, hc, hd] at h1
  simpa using h1
theorem cw_val {w : World} {S : List Nat} {v : Value} {l : List Vc} (h : Cw w S v l) : ∃ A cap, v = .slice A l.length cap := by obtain ⟨A, cap, e, _⟩ := h.1; exact ⟨A, cap, e⟩
set_option maxHeartbeats 8000000 in
set_option maxRecDepth 100000 in
theorem refSameParts_c (L M : List Vp) (hLM : pts L = pts M) (v u : Value) (w : World) (hL : Pw w [] v L) (hM : Pw w [] u M) : Calls Tryz.prog 18 #[v, u] w fun e w' => e = .returned (.bool true) ∧ Ext w w' := by
  have hlen : M.length = L.length := by have := congrArg List.length hLM; simpa using this.symm
  have hL' := hide hL
  have hM' := hide hM
  obtain ⟨A, cap, rfl, hlc, hlm, -⟩ := pw_form hL
  obtain ⟨A2, cap2, rfl, -, -, -⟩ := pw_form hM
  unfold maxLen at hlm
  rw [hlen] at hM' ⊢
  have hMh := hide hlen
  clear hL hM hlen
  have hnn : ((L.length : Int) != (L.length : Int)) = false := by simp
  go_enter Tryz.func18, Tryz.ntmps18
  go_wp2_with fail
  go_loopg [5] L.length (fun gh i wr => ∃ (k : Nat), i = .int .i64 k ∧ k + gh = L.length ∧ Hid (Ext w wr))
  case atStart => exact ⟨0, by go_num, by omega, Ext.refl _⟩
  case round =>
    obtain ⟨k, rfl, hk, hX⟩ := hrel
    by_cases hlt : k < L.length
    · obtain ⟨⟨x, ⟨s, t⟩, C⟩, hd⟩ : ∃ p, L[k]? = some p := ⟨_, List.getElem?_eq_getElem hlt⟩
      obtain ⟨⟨y, ⟨s2, t2⟩, C2⟩, hd2⟩ : ∃ p, M[k]? = some p := ⟨_, List.getElem?_eq_getElem (by rw [hMh.out]; exact hlt)⟩
      have e := pts_at hLM hd hd2
      simp only [Prod.mk.injEq] at e
      obtain ⟨⟨rfl, rfl⟩, hcc⟩ := e
      obtain ⟨A', cap', e', -, -, hat⟩ := pw_form (hL'.out.ext hX.out)
      simp only [Value.slice.injEq] at e'
      obtain ⟨rfl, -, rfl⟩ := e'
      obtain ⟨b, o, rfl, -, hbl, c0, c1, c2⟩ := hat k _ hd
      obtain ⟨A', cap', e', -, -, hat2⟩ := pw_form (hM'.out.ext hX.out)
      simp only [Value.slice.injEq] at e'
      obtain ⟨rfl, -, rfl⟩ := e'
      obtain ⟨b2, o2, rfl, -, hbl2, d0, d1, d2⟩ := hat2 k _ hd2
      have hr := (hL'.out.ext hX.out).2 _ (List.mem_of_getElem? hd)
      have hr2 := (hM'.out.ext hX.out).2 _ (List.mem_of_getElem? hd2)
      simp only at hr hr2 c0 c1 c2 d0 d1 d2
      obtain ⟨RA, rcap, rfl⟩ := cw_val hr
      obtain ⟨RB, rcap2, rfl⟩ := cw_val hr2
      have hs := hide (fun (g : GW wr) => refSameCopies_c C C2 hcc _ _ g.val (hr.ext g.grown) (hr2.ext g.grown))
      haveI : In b wr := ⟨hbl⟩
      haveI : In b2 wr := ⟨hbl2⟩
      have hn2 : (s != s) = false := by simp
      have hn3 : (t != t) = false := by simp
      clear hat hat2 hd hd2 hr hr2 hLM hcc
      go_wp2_with fail
      refine wp_region_gw (by kernel_rfl) (by kernel_rfl) ?_
      repeat (go_big_quiet_step ((go_at_call 44; with_reducible exact quiet_gw (hs.out _))))
      refine wpQuiet_nil ?_
      intro g8
      go_wp2_with fail
      go_roundg (L.length - (k + 1))
      case measure => omega
      case rel => exact ⟨k + 1, by go_num, by omega, hX.out.trans g8.grown⟩
    · go_wp2_with fail
      go_returns
      exact ⟨rfl, hX.out⟩
end Go.Proofs.YtljkneajdndgjaaGreat
set_option linter.unusedVariables false
set_option linter.unusedSimpArgs false
namespace Go.Proofs.YtljkneajdndgjaaGreat
open Go.RowKit
attribute [local go_sem] GW.cell GW.frozen In.eq_true In.le_true In.ne In.ne' In.ne_add In.ne_add' In.lt_add Upto.le_true Upto.le_add Upto.lt_add
/-- Copies of one's own, of the edges' rows. -/
def DC (L : List Ve) (w : World) (B : Nat) (v : Value) (C : List Vc) : Prop := w.ownsRow B 56 2 v C.length (cc C) ∧ ∀ p ∈ C, ∃ q ∈ L, q.1 = p.1 ∧ q.2.1 = p.2.1
theorem DC.cw {L : List Ve} {w : World} {B : Nat} {v u : Value} {C : List Vc} (h : DC L w B v C) (hL : Ew w [] u L) : Cw w [] v C := ⟨Sl.own h.1 (by simp), fun p hp => by
  obtain ⟨q, hq, e1, e2⟩ := h.2 p hp
  rw [← e1, ← e2]
  exact hL.2 q hq⟩
theorem DC.ext {L : List Ve} {w w' : World} {B : Nat} {v : Value} {C : List Vc} (h : DC L w B v C) (hX : Ext w w') : DC L w' B v C := ⟨own_ext h.1 hX, h.2⟩
theorem DC.away {L : List Ve} {w w' : World} {B : Nat} {v : Value} {C : List Vc} {S : List Nat} (h : DC L w B v C) (hF : Fr S w w') (hS : ∀ b ∈ S, b ∉ ob v) : DC L w' B v C := ⟨own_away h.1 hF hS, h.2⟩
theorem DC.base {L : List Ve} {w : World} {B B' : Nat} {v : Value} {C : List Vc} (h : DC L w B v C) (hb : B' ≤ B) : DC L w B' v C := ⟨own_base h.1 hb, h.2⟩
set_option maxHeartbeats 8000000 in
set_option maxRecDepth 100000 in
theorem refAliveO_c (L : List Ve) (hm : mayE (eds L) = true) (t : Int) (v : Value) (w : World) (hC : Ew w [] v L) : Calls Tryz.prog 96 #[v, .int .i64 t] w fun e w' => ∃ v' C, e = .returned v' ∧ cps C = alG (grp (eds L)) t ∧ DC L w' w.heap.size v' C ∧ Ext w w' := by
  have hLl : L.length ≤ 4096 := by have := mayE_len hm; simpa [eds] using this
  have hr1 := hide (fun w' (hX : Ext w w') => refRows_c L v w' (hC.ext hX) (mayE_rise hm).1 (by omega))
  have hju := hide (fun r x w' (hX : Ext w w') (hr : Rw w [] x r) => refJumps_c L r v x w' (hC.ext hX) (Sl.ext hr hX) (by omega))
  have hbr : Hid (byRows (eds L) = grp (eds L)) := (grp_eq (mayE_rise hm)).symm
  have hmr := hide (fun r => mayJ_rows hm r)
  obtain ⟨A, cap, rfl, hlc, hlm, -⟩ := ew_form hC
  have hC' := hide hC
  clear hC
  go_enter Tryz.func96, Tryz.ntmps96
  go_wp2_with (go_at_call 64; refine (hr1.out _ ((Ext.refl w).alloc _)).mono ?_; rintro ee w1 ⟨v1, M, rfl, hM, ho1, hin, hX1⟩; have hM' := hide hM; have ho2 := hide ho1; have hin2 := hide hin; have hX2 := hide (((Ext.refl w).alloc (.cells #[] 56)).trans hX1); obtain ⟨RA, rc1, q1⟩ := own_form ho1; subst q1; clear hM hin ho1)
  have hz0 : w1.ownsRow w.heap.size 56 2 (.slice (some ⟨w.heap.size, 0, none⟩) 0 0) 0 [] := own_ext (World.ownsRow_lit (base := w.heap.size) (e := 56) (size := 2) w #[] 0 (Nat.le_refl _) (by decide) rfl) hX1
  have hz1 := hide hz0
  have hMl : M.length ≤ 4096 := by have h1 := congrArg List.length hM'.out; rw [List.length_map] at h1; have := rowsL_len (eds L) (mayE_rise hm).1; rw [show (eds L).length = L.length from List.length_map _] at this; omega
  clear hz0 hX1
  go_loopg [5, 7] M.length (fun gh u i wr => ∃ (k : Nat) (C : List Vc), i = .int .i64 k ∧ k + gh = M.length ∧ Hid (wr.ownsRow w.heap.size 56 2 u C.length (cc C)) ∧ Hid (∀ p ∈ C, ∃ q ∈ L, q.1 = p.1 ∧ q.2.1 = p.2.1) ∧ Hid (cps C = alG ((byRows (eds L)).take k) t) ∧ C.length ≤ k ∧ Hid (Ext w wr) ∧ Hid (OwnRs wr w.heap.size (.slice RA M.length rc1) M))
  case atStart => exact ⟨0, [], by go_num, by omega, hz1, (by intro p hp; cases hp), rfl, by simp, hX2, own_base ho2.out (by simp)⟩
  case round =>
    clear hz1
    obtain ⟨k, C, rfl, hk, hO, hrw, hcp, hCl, hX, hoR⟩ := hrel
    obtain ⟨CA, ccap, rfl⟩ := own_form hO.out
    by_cases hlt : k < M.length
    · obtain ⟨⟨x, r⟩, hd⟩ : ∃ p, M[k]? = some p := ⟨_, List.getElem?_eq_getElem hlt⟩
      obtain ⟨A', cap', e', -, -, hat⟩ := rs_form (Sl.own (S := []) hoR.out (by simp))
      simp only [Value.slice.injEq] at e'
      obtain ⟨rfl, -, rfl⟩ := e'
      obtain ⟨b, o, rfl, -, hbl, c0⟩ := hat k _ hd
      simp only at c0
      have hgk : (byRows (eds L))[k]? = some (r, jmps (eds L) r) := byRows_get (by rw [← hM'.out, List.getElem?_map, hd]; rfl)
      have hnx := hide (alG_next hgk t)
      simp only at hnx
      have hxq := hin2.out _ (List.mem_of_getElem? hd)
      simp only at hxq
      have hxr : Rw w [] x r := by
        obtain ⟨q, hq, e1, e2⟩ := hxq
        rw [← e1, ← e2]
        exact hC'.out.2 q hq
      have hmj := hmr.out r
      have hje := hide (hju.out r x wr hX.out hxr)
      obtain ⟨J, hJ⟩ : ∃ J, J = jmps (eds L) r := ⟨_, rfl⟩
      rw [← hJ] at hje hmj hnx
      obtain ⟨n, hn⟩ : ∃ n, n = jv J t := ⟨_, rfl⟩
      have hnv : atV J t = n := by rw [atV_of hmj, hn]
      rw [hnv] at hnx
      have hjl : J.length ≤ 1024 := mayJ_len hmj
      have hval := hide (fun v' w' (h : Jw w' [] v' J) => refValue_c J (mayJ_net hmj) (by omega) t v' w' h)
      rw [← hn] at hval
      replace hJ := hide hJ
      replace hn := hide hn
      obtain ⟨XA, xcap, rfl⟩ := rw_val hxr
      haveI : In b wr := ⟨hbl⟩
      have hxr' := hide hxq
      have hobC := hide (ob_ge hO.out)
      clear hat hd hgk hxr hxq hmj hnv
      by_cases hpos : 0 < n
      · rw [if_pos hpos] at hnx
        go_wp2_with (first | (go_at_call 66; refine hje.out.mono ?_; rintro ee w4 ⟨v4, rfl, ho4, hX4⟩; have hX5 := hide hX4; have c4 := cell_later hX4 c0; have i4 : In b w4 := ⟨Nat.lt_of_lt_of_le hbl hX4.size⟩; have hv5 := hide (fun w' (hx : Ext w4 w') => hval.out v4 w' (Sl.ext (own_jw (S := []) ho4 (by simp)) hx)); obtain ⟨JA, jcap, q4⟩ := own_form ho4; subst q4; clear ho4 hX4) | (go_at_call 140; (with_reducible refine seq_gw (hv5.out _ (Ext.refl _)) ?_); intro g1; have hXg := hide (hX5.out.trans g1.grown); have hO1 := hide (own_ext hO.out hXg.out)) | (at_builtin; refine wpl_app tCp rfl (.tmp 28) (.tmp 35) rfl rfl (own_ext hO1.out ((Ext.refl g1.val).alloc _)) rfl (src_sl Tryz.underlying50 (sl_lit g1.val 56 2 [.slice XA r.length xcap, .int .i64 n] rfl) (by intro u hu; simp at hu; rcases hu with rfl | rfl <;> rfl) (by omega)) (by unfold maxLen; omega) (by omega) (by simp only [World.size_alloc]; have := hXg.out.size; have := hX.out.size; omega) ?_; intro v8 w8 ho8 hg8 hob8; have ho9 := hide ho8; have hg9 := hide hg8; obtain ⟨A8, c8, q8⟩ := own_form ho8; subst q8; clear ho8 hg8 hob8))
        have hF9 : Fr (ob (.slice CA C.length ccap)) g1.val w8 := ((Fr.refl _ _).alloc _).grown hg9.out (fun j hj => .inl (Option.mem_toList.2 hj))
        go_roundg (M.length - (k + 1))
        case measure => omega
        case rel =>
          refine ⟨k + 1, C ++ [(Value.slice XA r.length xcap, r, n)], by go_num, by omega, ?_, ?_, ?_, by simp; omega, ext_fr (hX.out.trans hXg.out) hF9 (fun y hy => (hobC.out y hy).1), own_away (own_ext hoR.out hXg.out) hF9 (fun y hy => own_far hO1.out (own_ext hoR.out hXg.out) (by decide) y hy)⟩
          · have := ho9.out
            show World.ownsRow _ _ _ _ _ _ _
            rw [List.length_append, cc_append]
            simpa [cc, cc1] using this
          · intro p hp
            rcases List.mem_append.1 hp with hp | hp
            · exact hrw.out p hp
            · obtain rfl := List.mem_singleton.1 hp
              exact hxr'.out
          · show _ = _
            rw [hnx.out, ← hcp.out]
            simp
      · rw [if_neg hpos] at hnx
        go_wp2_with (first | (go_at_call 66; refine hje.out.mono ?_; rintro ee w4 ⟨v4, rfl, ho4, hX4⟩; have hX5 := hide hX4; have hv5 := hide (fun w' (hx : Ext w4 w') => hval.out v4 w' (Sl.ext (own_jw (S := []) ho4 (by simp)) hx)); obtain ⟨JA, jcap, q4⟩ := own_form ho4; subst q4; clear ho4 hX4) | (go_at_call 140; (with_reducible refine seq_gw (hv5.out _ (Ext.refl _)) ?_); intro g1; have hXg := hide (hX5.out.trans g1.grown)))
        go_roundg (M.length - (k + 1))
        case measure => omega
        case rel => exact ⟨k + 1, C, by go_num, by omega, own_ext hO.out hXg.out, hrw.out, (by show _ = _; rw [hnx.out, List.append_nil]; exact hcp.out), by omega, hX.out.trans hXg.out, own_ext hoR.out hXg.out⟩
    · have hfin := hide (show cps C = alG (grp (eds L)) t by rw [hcp.out, ← hbr.out, List.take_of_length_le (by rw [byRows_len, ← hM'.out, List.length_map]; omega)])
      go_wp2_with fail
      go_returns
      exact ⟨_, C, rfl, hfin.out, ⟨hO.out, hrw.out⟩, hX.out⟩
end Go.Proofs.YtljkneajdndgjaaGreat
