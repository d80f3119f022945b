/-
  A helper of ours: no claim of its own. Layer 30 (window): which windows may be, and the clock, by the document; and the walk of WindowClocks.
-/
import Derived.Test.YtljkneajdndgjaaGreatWinC
import Derived.Test.YtljkneajdndgjaaGreatCouU
import Derived.Test.YtljkneajdndgjaaGreatWindowClocksF
set_option linter.unusedVariables false
set_option linter.unusedSimpArgs false
namespace Go.Proofs.YtljkneajdndgjaaGreat
open Go.RowKit
attribute [local go_sem] GW.cell GW.frozen In.eq_true In.le_true In.ne In.ne' In.ne_add In.ne_add' In.lt_add Upto.le_true Upto.le_add Upto.lt_add
theorem wrefMay_c (k s h : Int) (w : World) : Calls Tryz.prog 15 #[wV k s h] w fun e w' => e = .returned (.bool (wmay k s h)) ∧ Ext w w' := by
  have hm := hide (fun w' => hrefMay_c s h w')
  have hb := hide (Ob.new w 24 (wL k s h))
  have c0 := hb.out.cell 0 rfl
  have c1 := hb.out.cell 1 rfl
  have c2 := hb.out.cell 2 rfl
  have hl := hb.out.lt
  haveI : In w.heap.size (w.alloc (.cells #[.int .i64 k, .int .i64 s, .int .i64 h] 24)) := ⟨hl⟩
  obtain ⟨B, hB⟩ : ∃ B, B = wmay k s h := ⟨_, rfl⟩
  rw [← hB]
  by_cases k2 : k = 2
  · subst k2
    rw [show (hlen s && hlen h) = B by rw [hB]; simp [wmay]] at hm
    clear hB
    go_enter Tryz.func15, Tryz.ntmps15
    go_wp2_with (go_at_call 39; (with_reducible refine seq_gw (hm.out _) ?_); intro g)
    go_returns
    exact ⟨by first | rfl | simp, ((Ext.refl w).alloc _).trans g.grown⟩
  have k2b : (k == 2) = false := by simpa using k2
  by_cases h0 : h = 0
  case neg =>
    have hB0 : B = false := by rw [hB]; unfold wmay; rw [if_neg k2]; simp [h0]
    have h0b : (h != 0) = true := by simpa using h0
    subst hB0
    clear hB k2
    go_enter Tryz.func15, Tryz.ntmps15
    go_wp2_with fail
    go_returns
    exact ⟨by first | rfl | simp, (Ext.refl w).alloc _⟩
  have h0b : (h != 0) = false := by simpa using h0
  by_cases k1 : k = 1
  · subst k1
    by_cases s0 : s = 0
    · have hB0 : B = true := by rw [hB]; unfold wmay; simp [h0, s0]
      have s0b : (s == 0) = true := by simpa using s0
      subst hB0
      clear hB k2
      go_enter Tryz.func15, Tryz.ntmps15
      go_wp2_with fail
      go_returns
      exact ⟨by first | rfl | simp, (Ext.refl w).alloc _⟩
    · have hB0 : B = false := by rw [hB]; unfold wmay; simp [s0]
      have s0b : (s == 0) = false := by simpa using s0
      subst hB0
      clear hB k2
      go_enter Tryz.func15, Tryz.ntmps15
      go_wp2_with fail
      go_returns
      exact ⟨by first | rfl | simp, (Ext.refl w).alloc _⟩
  have k1b : (k == 1) = false := by simpa using k1
  by_cases k3 : k = 3
  case neg =>
    have k3b : (k == 3) = false := by simpa using k3
    have hB0 : B = false := by rw [hB]; unfold wmay; rw [if_neg k1, if_neg k2, if_neg k3]
    subst hB0
    clear hB k1 k2 k3
    go_enter Tryz.func15, Tryz.ntmps15
    go_wp2_with fail
    go_returns
    exact ⟨by first | rfl | simp, (Ext.refl w).alloc _⟩
  subst k3
  by_cases s1 : 0 < s
  case neg =>
    have hB0 : B = false := by rw [hB]; unfold wmay; simp; omega
    have s1b : decide (0 < s) = false := decide_eq_false s1
    subst hB0
    clear hB k1 k2
    go_enter Tryz.func15, Tryz.ntmps15
    go_wp2_with fail
    go_returns
    exact ⟨by first | rfl | simp, (Ext.refl w).alloc _⟩
  by_cases s2 : s ≤ 64
  · have hB0 : B = true := by rw [hB]; unfold wmay; simp [h0]; omega
    subst hB0
    clear hB k1 k2
    go_enter Tryz.func15, Tryz.ntmps15
    go_wp2_with fail
    go_returns
    exact ⟨by first | rfl | simp, (Ext.refl w).alloc _⟩
  · have hB0 : B = false := by rw [hB]; unfold wmay; simp; omega
    subst hB0
    clear hB k1 k2
    go_enter Tryz.func15, Tryz.ntmps15
    go_wp2_with fail
    go_returns
    exact ⟨by first | rfl | simp, (Ext.refl w).alloc _⟩
theorem wrefCheck_c (k s h : Int) (L : List Ve) (t : Int) (v : Value) (w : World) (hC : Ew w [] v L) : Calls Tryz.prog 35 #[wV k s h, v, .int .i64 t] w fun e w' => e = .returned (.int .i64 (wrE k s h (eds L) t)) ∧ Ext w w' := by
  have hk := hide (fun w' => wrefMay_c k s h w')
  have h1 := hide (fun w' (hX : Ext w w') => refEdgeMay_c L v w' (hC.ext hX))
  have h2 := hide (fun w' (hX : Ext w w') => refEdgeTable_c L v w' (hC.ext hX))
  have h3 := hide (fun w' => srefTick_c t w')
  obtain ⟨A, cap, rfl, hlc, hlm, -⟩ := ew_form hC
  clear hC
  cases hm : wmay k s h
  · have e1 : wrE k s h (eds L) t = 2 := by unfold wrE; rw [hm]; simp
    rw [e1]
    rw [hm] at hk
    clear hm e1
    go_enter Tryz.func35, Tryz.ntmps35
    go_wp2_with (first | (go_at_call 15; (with_reducible refine seq_gw (hk.out _) ?_); intro g1))
    go_returns
    exact ⟨by first | rfl | simp, ((Ext.refl w).alloc _).trans g1.grown⟩
  cases ha : mayE (eds L)
  · have e1 : wrE k s h (eds L) t = 2 := by unfold wrE; rw [ha]; simp
    rw [e1]
    rw [hm] at hk
    rw [ha] at h1
    clear hm ha e1
    go_enter Tryz.func35, Tryz.ntmps35
    go_wp2_with (first | (go_at_call 15; (with_reducible refine seq_gw (hk.out _) ?_); intro g1) | (go_at_call 61; (with_reducible refine seq_gw (h1.out _ (((Ext.refl w).alloc _).trans g1.grown)) ?_); intro g2))
    go_returns
    exact ⟨by first | rfl | simp, (((Ext.refl w).alloc _).trans g1.grown).trans g2.grown⟩
  cases hb : tabE (eds L)
  · have e1 : wrE k s h (eds L) t = 20 := by unfold wrE; rw [if_pos ⟨hm, ha⟩, hb]; rfl
    rw [e1]
    rw [hm] at hk
    rw [ha] at h1
    rw [hb] at h2
    clear hm ha hb e1
    go_enter Tryz.func35, Tryz.ntmps35
    go_wp2_with (first | (go_at_call 15; (with_reducible refine seq_gw (hk.out _) ?_); intro g1) | (go_at_call 61; (with_reducible refine seq_gw (h1.out _ (((Ext.refl w).alloc _).trans g1.grown)) ?_); intro g2) | (go_at_call 62; (with_reducible refine seq_gw (h2.out _ ((((Ext.refl w).alloc _).trans g1.grown).trans g2.grown)) ?_); intro g3))
    go_returns
    exact ⟨by first | rfl | simp, ((((Ext.refl w).alloc _).trans g1.grown).trans g2.grown).trans g3.grown⟩
  cases ht : stick t
  · have e1 : wrE k s h (eds L) t = 13 := by unfold wrE; rw [if_pos ⟨hm, ha⟩, if_pos hb, ht]; rfl
    rw [e1]
    rw [hm] at hk
    rw [ha] at h1
    rw [hb] at h2
    rw [ht] at h3
    clear hm ha hb ht e1
    go_enter Tryz.func35, Tryz.ntmps35
    go_wp2_with (first | (go_at_call 15; (with_reducible refine seq_gw (hk.out _) ?_); intro g1) | (go_at_call 61; (with_reducible refine seq_gw (h1.out _ (((Ext.refl w).alloc _).trans g1.grown)) ?_); intro g2) | (go_at_call 62; (with_reducible refine seq_gw (h2.out _ ((((Ext.refl w).alloc _).trans g1.grown).trans g2.grown)) ?_); intro g3) | (go_at_call 63; (with_reducible refine seq_gw (h3.out _) ?_); intro g4))
    go_returns
    exact ⟨by first | rfl | simp, (((((Ext.refl w).alloc _).trans g1.grown).trans g2.grown).trans g3.grown).trans g4.grown⟩
  have e1 : wrE k s h (eds L) t = 0 := by unfold wrE; rw [if_pos ⟨hm, ha⟩, if_pos hb, ht]; rfl
  rw [e1]
  rw [hm] at hk
  rw [ha] at h1
  rw [hb] at h2
  rw [ht] at h3
  clear hm ha hb ht e1
  go_enter Tryz.func35, Tryz.ntmps35
  go_wp2_with (first | (go_at_call 15; (with_reducible refine seq_gw (hk.out _) ?_); intro g1) | (go_at_call 61; (with_reducible refine seq_gw (h1.out _ (((Ext.refl w).alloc _).trans g1.grown)) ?_); intro g2) | (go_at_call 62; (with_reducible refine seq_gw (h2.out _ ((((Ext.refl w).alloc _).trans g1.grown).trans g2.grown)) ?_); intro g3) | (go_at_call 63; (with_reducible refine seq_gw (h3.out _) ?_); intro g4))
  go_returns
  exact ⟨by first | rfl | simp, (((((Ext.refl w).alloc _).trans g1.grown).trans g2.grown).trans g3.grown).trans g4.grown⟩
set_option maxHeartbeats 4000000 in
theorem wrefClock_c (k s h : Int) (L : List Ve) (hLs : L.length ≤ 4000) (t : Int) (v : Value) (w : World) (hC : Ew w [] v L) : Calls Tryz.prog 13 #[wV k s h, v, .int .i64 t] w fun e w' => e = .returned (.tuple #[.int .i64 (wcV k s h (eds L) t), .int .i64 (wrE k s h (eds L) t)]) ∧ Ext w w' := by
  have hw := hide (fun w' (hX : Ext w w') => wrefCheck_c k s h L t v w' (hC.ext hX))
  have ho := hide (fun w' => hrefOpen_c s h t w')
  have hc := hide (fun w' (hX : Ext w w') => refOpen_c L hLs s t v w' (hC.ext hX))
  obtain ⟨A, cap, rfl, hlc, hlm, -⟩ := ew_form hC
  clear hC
  obtain ⟨E, hE⟩ : ∃ E, E = wrE k s h (eds L) t := ⟨_, rfl⟩
  rw [← hE] at hw ⊢
  have hb := hide (Ob.new w 24 (wL k s h))
  have c0 := hb.out.cell 0 rfl
  have c1 := hb.out.cell 1 rfl
  have c2 := hb.out.cell 2 rfl
  have hl := hb.out.lt
  haveI : In w.heap.size (w.alloc (.cells #[.int .i64 k, .int .i64 s, .int .i64 h] 24)) := ⟨hl⟩
  by_cases hE0 : E = 0
  case neg =>
    have e1 : wcV k s h (eds L) t = 0 := by unfold wcV; rw [← hE, if_neg hE0]
    rw [e1]
    have hbE : (E != 0) = true := by simpa using hE0
    replace hE := hide hE
    clear e1
    go_enter Tryz.func13, Tryz.ntmps13
    go_wp2_with (go_at_call 35; (with_reducible refine seq_gw (hw.out _ ((Ext.refl w).alloc _)) ?_); intro g1)
    go_returns
    exact ⟨by first | rfl | simp, ((Ext.refl w).alloc _).trans g1.grown⟩
  subst hE0
  obtain ⟨a1, a2, a3, a4, a5⟩ := wrE_zero hE.symm
  obtain ⟨V, hV⟩ : ∃ V, V = wcV k s h (eds L) t := ⟨_, rfl⟩
  rw [← hV]
  have hVe : V = if k = 2 then min t (hopV s h t) else if k = 3 then coV (eds L) s t else t := by rw [hV]; unfold wcV; rw [← hE, if_pos rfl]
  clear hV
  rcases wmay_kind a1 with ⟨rfl, -, -⟩ | ⟨rfl, c, d⟩ | ⟨rfl, c, -⟩
  · rw [if_neg (by decide), if_neg (by decide)] at hVe
    subst hVe
    replace hE := hide hE
    clear a1 a2 a3 a4 a5
    go_enter Tryz.func13, Tryz.ntmps13
    go_wp2_with (go_at_call 35; (with_reducible refine seq_gw (hw.out _ ((Ext.refl w).alloc _)) ?_); intro g1)
    go_returns
    exact ⟨by first | rfl | simp, ((Ext.refl w).alloc _).trans g1.grown⟩
  · rw [if_pos rfl] at hVe
    rw [hopE_of c d ⟨a4, a5⟩] at ho
    obtain ⟨O, hO⟩ : ∃ O, O = hopV s h t := ⟨_, rfl⟩
    rw [← hO] at hVe ho
    replace hE := hide hE
    replace hO := hide hO
    clear a1 a2 a3 a4 a5 c d
    by_cases hot : O < t
    · have e1 : V = O := by omega
      subst e1
      clear hVe
      go_enter Tryz.func13, Tryz.ntmps13
      go_wp2_with (first | (go_at_call 35; (with_reducible refine seq_gw (hw.out _ ((Ext.refl w).alloc _)) ?_); intro g1) | (go_at_call 37; (with_reducible refine seq_gw (ho.out _) ?_); intro g2))
      go_returns
      exact ⟨by first | rfl | simp, (((Ext.refl w).alloc _).trans g1.grown).trans g2.grown⟩
    · have e1 : V = t := by omega
      subst e1
      clear hVe
      go_enter Tryz.func13, Tryz.ntmps13
      go_wp2_with (first | (go_at_call 35; (with_reducible refine seq_gw (hw.out _ ((Ext.refl w).alloc _)) ?_); intro g1) | (go_at_call 37; (with_reducible refine seq_gw (ho.out _) ?_); intro g2))
      go_returns
      exact ⟨by first | rfl | simp, (((Ext.refl w).alloc _).trans g1.grown).trans g2.grown⟩
  · rw [if_neg (by decide), if_pos rfl] at hVe
    rw [ssE_of c a2 a3 ⟨a4, a5⟩, ← hVe] at hc
    replace hE := hide hE
    replace hVe := hide hVe
    clear a1 a2 a3 a4 a5 c
    go_enter Tryz.func13, Tryz.ntmps13
    go_wp2_with (first | (go_at_call 35; (with_reducible refine seq_gw (hw.out _ ((Ext.refl w).alloc _)) ?_); intro g1) | (go_at_call 36; (with_reducible refine seq_gw (hc.out _ (((Ext.refl w).alloc _).trans g1.grown)) ?_); intro g2))
    go_returns
    exact ⟨by first | rfl | simp, (((Ext.refl w).alloc _).trans g1.grown).trans g2.grown⟩
set_option maxHeartbeats 4000000 in
theorem wfew_c (L : List Ve) (v : Value) (w : World) (hC : Ew w [] v L) : Calls Tryz.prog 10 #[v] w fun e w' => e = .returned (.bool (fewB (eds L))) ∧ Ext w w' := by
  have hC' := hide hC
  obtain ⟨A, cap, rfl, hlc, hlm, -⟩ := ew_form hC
  unfold maxLen at hlm
  clear hC
  have hel : (eds L).length = L.length := List.length_map _
  go_enter Tryz.func10, Tryz.ntmps10
  go_wp2_with fail
  go_loopg [3] L.length (fun gh i wr => ∃ (k : Nat), i = .int .i64 k ∧ k + gh = L.length ∧ k ≤ 61 ∧ Hid (∀ e ∈ (eds L).take k, e.2.2 ≤ 10) ∧ Hid (Ext w wr))
  case atStart => exact ⟨0, by go_num, by omega, by omega, (by intro e he; simp at he), Ext.refl _⟩
  case round =>
    obtain ⟨k, rfl, hk, hk6, hA, hX⟩ := hrel
    by_cases hlt : k < L.length
    case neg =>
      have hB : Hid (fewB (eds L) = decide ((L.length : Int) ≤ 60)) := by
        show _ = _
        unfold fewB
        have h1 : ((eds L).all fun e => decide (e.2.2 ≤ 10)) = true := by
          rw [List.all_eq_true]
          intro e he
          have := hA.out e (by rw [List.take_of_length_le (by omega)]; exact he)
          simpa using this
        rw [h1, hel, Bool.and_true]
        exact decide_eq_decide.2 (by omega)
      have hltb : decide ((k : Int) < (L.length : Int)) = false := decide_eq_false (by omega)
      go_wp2_with fail
      go_returns
      exact ⟨by rw [hB.out]; first | rfl | simp, hX.out⟩
    by_cases h60 : k ≤ 60
    case neg =>
      have hB : Hid (fewB (eds L) = decide ((L.length : Int) ≤ 60)) := by
        show _ = _
        unfold fewB
        rw [decide_eq_false (by omega), decide_eq_false (show ¬ (L.length : Int) ≤ 60 by omega), Bool.false_and]
      have h60b : ¬ (k : Int) ≤ 60 := by omega
      go_wp2_with fail
      go_returns
      exact ⟨by rw [hB.out]; first | rfl | simp, hX.out⟩
    obtain ⟨⟨u, q, a, d⟩, hd⟩ : ∃ p, L[k]? = some p := ⟨_, List.getElem?_eq_getElem hlt⟩
    obtain ⟨A', cap', e', -, -, hat⟩ := ew_form (hC'.out.ext hX.out)
    simp only [Value.slice.injEq] at e'
    obtain ⟨rfl, -, rfl⟩ := e'
    obtain ⟨b, o, rfl, -, hbl, c0, c1, c2⟩ := hat k _ hd
    simp only at c2
    have hde : (eds L)[k]? = some (q, a, d) := by rw [List.getElem?_map, hd]; rfl
    have h60c : (k : Int) ≤ 60 := by omega
    haveI : In b wr := ⟨hbl⟩
    by_cases hd0 : 10 < d
    · have hB : Hid (fewB (eds L) = false) := by
        show _ = _
        unfold fewB
        rw [Bool.and_eq_false_iff]
        refine .inr ?_
        rw [List.all_eq_false]
        exact ⟨_, List.mem_of_getElem? hde, by simp; omega⟩
      clear hat hd hde c0 c1
      go_wp2_with fail
      go_returns
      exact ⟨by rw [hB.out]; first | rfl | simp, hX.out⟩
    · have hA2 : Hid (∀ e ∈ (eds L).take (k + 1), e.2.2 ≤ 10) := fun e he => by
        rw [List.take_add_one, hde] at he
        rcases List.mem_append.1 he with he | he
        · exact hA.out e he
        · obtain rfl := List.mem_singleton.1 he
          simp; omega
      clear hat hd hde c0 c1
      go_wp2_with fail
      go_roundg (L.length - (k + 1))
      case measure => omega
      case rel => exact ⟨k + 1, by go_num, by omega, by omega, hA2, hX⟩
set_option maxHeartbeats 8000000 in
set_option maxRecDepth 100000 in
theorem windowClocks_walk (k s h : Int) (L : List Ve) (t : Int) (v : Value) (w : World) (hC : Ew w [] v L) : Calls Tryz.prog 3 #[wV k s h, v, .int .i64 t] w fun e w' => e = .returned (.bool true) ∧ Ext w w' := by
  have hl := hide (fun w => wLive_c w)
  have hX0 := hide ((Ext.refl w).alloc (.cells #[.int .i64 k, .int .i64 s, .int .i64 h] 24))
  have hfw := hide (fun w' (hX : Ext w w') => wfew_c L v w' (hC.ext hX))
  have hcl := hide (fun w' (hX : Ext w w') => wclock_c k s h L t v w' (hC.ext hX))
  have hrc := hide (fun (hf : L.length ≤ 60) w' (hX : Ext w w') => wrefClock_c k s h L (by omega) t v w' (hC.ext hX))
  have hk := hide (fun w' => wcheck_c k s h w')
  have hrm := hide (fun w' => wrefMay_c k s h w')
  have hin := wcV_in (k := k) (s := s) (h := h) (l := eds L) (t := t)
  obtain ⟨A, cap, rfl, hlc, hlm, -⟩ := ew_form hC
  clear hC
  have hb := hide (Ob.new w 24 (wL k s h))
  have c0 := hb.out.cell 0 rfl
  have c1 := hb.out.cell 1 rfl
  have c2 := hb.out.cell 2 rfl
  have hbl := hb.out.lt
  haveI : In w.heap.size (w.alloc (.cells #[.int .i64 k, .int .i64 s, .int .i64 h] 24)) := ⟨hbl⟩
  cases hf : fewB (eds L)
  · rw [hf] at hfw
    clear hf hin hrc
    go_enter Tryz.func3, Tryz.ntmps3
    go_wp2_with (first | (go_at_call 10; (with_reducible refine seq_gw (hfw.out _ hX0.out) ?_); intro g1) | (go_at_call 11; (with_reducible refine seq_gw (hl.out _) ?_); intro g9))
    go_returns
    exact ⟨by first | rfl | simp, (hX0.out.trans g1.grown).trans g9.grown⟩
  rw [hf] at hfw
  have hf6 : L.length ≤ 60 := by have := (fewB_iff.1 hf).1; rwa [show (eds L).length = L.length from List.length_map _] at this
  have hrc := hide (hrc.out hf6)
  obtain ⟨E, hE⟩ : ∃ E, E = wrE k s h (eds L) t := ⟨_, rfl⟩
  obtain ⟨V, hV⟩ : ∃ V, V = wcV k s h (eds L) t := ⟨_, rfl⟩
  obtain ⟨B, hB⟩ : ∃ B, B = wmay k s h := ⟨_, rfl⟩
  rw [← hE, ← hV] at hcl hrc hin
  rw [← hB] at hk hrm
  have hVV : (V == V) = true := by simp
  have hEE : (E == E) = true := by simp
  replace hE := hide hE
  replace hV := hide hV
  replace hB := hide hB
  clear hf hf6
  by_cases hE0 : E = 0
  · have hv := (hin hE0).2
    subst hE0
    clear hin
    cases B
    · rw [if_neg (by decide)] at hk
      go_enter Tryz.func3, Tryz.ntmps3
      go_wp2_with (first | (go_at_call 10; (with_reducible refine seq_gw (hfw.out _ hX0.out) ?_); intro g1) | (go_at_call 12; (with_reducible refine seq_gw (hcl.out _ (hX0.out.trans g1.grown)) ?_); intro g2) | (go_at_call 13; (with_reducible refine seq_gw (hrc.out _ ((hX0.out.trans g1.grown).trans g2.grown)) ?_); intro g3))
      refine wp_region_gw (by kernel_rfl) (by kernel_rfl) ?_
      repeat (go_big_quiet_step ((first | (go_at_call 11; with_reducible exact quiet_gw (hl.out _)) | (go_at_call 14; with_reducible exact quiet_gw (hk.out _)) | (go_at_call 15; with_reducible exact quiet_gw (hrm.out _)))))
      refine wpQuiet_nil ?_
      intro g8
      go_wp2_with fail
      go_returns
      exact ⟨by first | rfl | simp, (((hX0.out.trans g1.grown).trans g2.grown).trans g3.grown).trans g8.grown⟩
    · rw [if_pos rfl] at hk
      go_enter Tryz.func3, Tryz.ntmps3
      go_wp2_with (first | (go_at_call 10; (with_reducible refine seq_gw (hfw.out _ hX0.out) ?_); intro g1) | (go_at_call 12; (with_reducible refine seq_gw (hcl.out _ (hX0.out.trans g1.grown)) ?_); intro g2) | (go_at_call 13; (with_reducible refine seq_gw (hrc.out _ ((hX0.out.trans g1.grown).trans g2.grown)) ?_); intro g3))
      refine wp_region_gw (by kernel_rfl) (by kernel_rfl) ?_
      repeat (go_big_quiet_step ((first | (go_at_call 11; with_reducible exact quiet_gw (hl.out _)) | (go_at_call 14; with_reducible exact quiet_gw (hk.out _)) | (go_at_call 15; with_reducible exact quiet_gw (hrm.out _)))))
      refine wpQuiet_nil ?_
      intro g8
      go_wp2_with fail
      go_returns
      exact ⟨by first | rfl | simp, (((hX0.out.trans g1.grown).trans g2.grown).trans g3.grown).trans g8.grown⟩
  · have hEb : (E != 0) = true := by simpa using hE0
    clear hin hE0
    cases B
    · rw [if_neg (by decide)] at hk
      go_enter Tryz.func3, Tryz.ntmps3
      go_wp2_with (first | (go_at_call 10; (with_reducible refine seq_gw (hfw.out _ hX0.out) ?_); intro g1) | (go_at_call 12; (with_reducible refine seq_gw (hcl.out _ (hX0.out.trans g1.grown)) ?_); intro g2) | (go_at_call 13; (with_reducible refine seq_gw (hrc.out _ ((hX0.out.trans g1.grown).trans g2.grown)) ?_); intro g3))
      refine wp_region_gw (by kernel_rfl) (by kernel_rfl) ?_
      repeat (go_big_quiet_step ((first | (go_at_call 11; with_reducible exact quiet_gw (hl.out _)) | (go_at_call 14; with_reducible exact quiet_gw (hk.out _)) | (go_at_call 15; with_reducible exact quiet_gw (hrm.out _)))))
      refine wpQuiet_nil ?_
      intro g8
      go_wp2_with fail
      go_returns
      exact ⟨by first | rfl | simp, (((hX0.out.trans g1.grown).trans g2.grown).trans g3.grown).trans g8.grown⟩
    · rw [if_pos rfl] at hk
      go_enter Tryz.func3, Tryz.ntmps3
      go_wp2_with (first | (go_at_call 10; (with_reducible refine seq_gw (hfw.out _ hX0.out) ?_); intro g1) | (go_at_call 12; (with_reducible refine seq_gw (hcl.out _ (hX0.out.trans g1.grown)) ?_); intro g2) | (go_at_call 13; (with_reducible refine seq_gw (hrc.out _ ((hX0.out.trans g1.grown).trans g2.grown)) ?_); intro g3))
      refine wp_region_gw (by kernel_rfl) (by kernel_rfl) ?_
      repeat (go_big_quiet_step ((first | (go_at_call 11; with_reducible exact quiet_gw (hl.out _)) | (go_at_call 14; with_reducible exact quiet_gw (hk.out _)) | (go_at_call 15; with_reducible exact quiet_gw (hrm.out _)))))
      refine wpQuiet_nil ?_
      intro g8
      go_wp2_with fail
      go_returns
      exact ⟨by first | rfl | simp, (((hX0.out.trans g1.grown).trans g2.grown).trans g3.grown).trans g8.grown⟩
end Go.Proofs.YtljkneajdndgjaaGreat
