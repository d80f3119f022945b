/-
  A helper of ours: no claim of its own. Layer 30 (window), by the code: the windows and their rows.
-/
import Derived.Test.YtljkneajdndgjaaGreatCouP
import Derived.Test.YtljkneajdndgjaaGreatSnaF
import Derived.Test.YtljkneajdndgjaaGreatHopT
set_option linter.unusedVariables false
set_option linter.unusedSimpArgs false
namespace Go.Proofs.YtljkneajdndgjaaGreat
open Go.RowKit
attribute [local go_sem] GW.cell GW.frozen In.eq_true In.le_true In.ne In.ne' In.ne_add In.ne_add' In.lt_add Upto.le_true Upto.le_add Upto.lt_add
abbrev wV (k s h : Int) : Value := .agg #[.int .i64 k, .int .i64 s, .int .i64 h]
abbrev wL (k s h : Int) : List Value := [.int .i64 k, .int .i64 s, .int .i64 h]
theorem wup0_c (b : Nat) (k s h : Int) (w : World) (hb : Ob w b 24 (wL k s h)) : Calls Tryz.prog 38 #[.int .i64 0, .int .i64 0, .pointer (some ⟨b, 0, none⟩)] w fun e w' => e = .returned (.bool (decide (s = 0) && decide (h = 0))) ∧ Ext w w' := by
  have e : (decide (s = 0) && decide (h = 0)) = decide (0 ≤ s ∧ s ≤ 0 ∧ 0 ≤ h ∧ h ≤ 0) := by
    rw [Bool.eq_iff_iff]
    simp [hlen]
    omega
  rw [e]
  have c1 := hb.cell 1 rfl
  have c2 := hb.cell 2 rfl
  have hl := hb.lt
  haveI : In b w := ⟨hl⟩
  have m1 : min (1 : Int) 0 = 0 := by decide
  have m2 : min (1 : Int) 0 = 0 := by decide
  clear e
  by_cases a1 : 0 ≤ s
  case neg =>
    go_enter Tryz.func38, Tryz.ntmps38
    go_wp2_with fail
    go_returns
    exact ⟨by simp [a1] <;> omega, Ext.refl _⟩
  by_cases a2 : s ≤ 0
  case neg =>
    go_enter Tryz.func38, Tryz.ntmps38
    go_wp2_with fail
    go_returns
    exact ⟨by simp [a1, a2] <;> omega, Ext.refl _⟩
  by_cases a3 : 0 ≤ h
  case neg =>
    go_enter Tryz.func38, Tryz.ntmps38
    go_wp2_with fail
    go_returns
    exact ⟨by simp [a1, a2, a3] <;> omega, Ext.refl _⟩
  by_cases a4 : h ≤ 0
  all_goals
    go_enter Tryz.func38, Tryz.ntmps38
    go_wp2_with fail
    go_returns
    exact ⟨by simp [a1, a2, a3, a4] <;> omega, Ext.refl _⟩
theorem wup2_c (b : Nat) (k s h : Int) (w : World) (hb : Ob w b 24 (wL k s h)) : Calls Tryz.prog 38 #[.int .i64 1099511627776, .int .i64 1099511627776, .pointer (some ⟨b, 0, none⟩)] w fun e w' => e = .returned (.bool (hlen s && hlen h)) ∧ Ext w w' := by
  have e : (hlen s && hlen h) = decide (1 ≤ s ∧ s ≤ 1099511627776 ∧ 1 ≤ h ∧ h ≤ 1099511627776) := by
    rw [Bool.eq_iff_iff]
    simp [hlen]
    omega
  rw [e]
  have c1 := hb.cell 1 rfl
  have c2 := hb.cell 2 rfl
  have hl := hb.lt
  haveI : In b w := ⟨hl⟩
  have m1 : min (1 : Int) 1099511627776 = 1 := by decide
  have m2 : min (1 : Int) 1099511627776 = 1 := by decide
  clear e
  by_cases a1 : 1 ≤ s
  case neg =>
    go_enter Tryz.func38, Tryz.ntmps38
    go_wp2_with fail
    go_returns
    exact ⟨by simp [a1] <;> omega, Ext.refl _⟩
  by_cases a2 : s ≤ 1099511627776
  case neg =>
    go_enter Tryz.func38, Tryz.ntmps38
    go_wp2_with fail
    go_returns
    exact ⟨by simp [a1, a2] <;> omega, Ext.refl _⟩
  by_cases a3 : 1 ≤ h
  case neg =>
    go_enter Tryz.func38, Tryz.ntmps38
    go_wp2_with fail
    go_returns
    exact ⟨by simp [a1, a2, a3] <;> omega, Ext.refl _⟩
  by_cases a4 : h ≤ 1099511627776
  all_goals
    go_enter Tryz.func38, Tryz.ntmps38
    go_wp2_with fail
    go_returns
    exact ⟨by simp [a1, a2, a3, a4] <;> omega, Ext.refl _⟩
theorem wup3_c (b : Nat) (k s h : Int) (w : World) (hb : Ob w b 24 (wL k s h)) : Calls Tryz.prog 38 #[.int .i64 64, .int .i64 0, .pointer (some ⟨b, 0, none⟩)] w fun e w' => e = .returned (.bool ((decide (1 ≤ s) && decide (s ≤ 64)) && decide (h = 0))) ∧ Ext w w' := by
  have e : ((decide (1 ≤ s) && decide (s ≤ 64)) && decide (h = 0)) = decide (1 ≤ s ∧ s ≤ 64 ∧ 0 ≤ h ∧ h ≤ 0) := by
    rw [Bool.eq_iff_iff]
    simp [hlen]
    omega
  rw [e]
  have c1 := hb.cell 1 rfl
  have c2 := hb.cell 2 rfl
  have hl := hb.lt
  haveI : In b w := ⟨hl⟩
  have m1 : min (1 : Int) 64 = 1 := by decide
  have m2 : min (1 : Int) 0 = 0 := by decide
  clear e
  by_cases a1 : 1 ≤ s
  case neg =>
    go_enter Tryz.func38, Tryz.ntmps38
    go_wp2_with fail
    go_returns
    exact ⟨by simp [a1] <;> omega, Ext.refl _⟩
  by_cases a2 : s ≤ 64
  case neg =>
    go_enter Tryz.func38, Tryz.ntmps38
    go_wp2_with fail
    go_returns
    exact ⟨by simp [a1, a2] <;> omega, Ext.refl _⟩
  by_cases a3 : 0 ≤ h
  case neg =>
    go_enter Tryz.func38, Tryz.ntmps38
    go_wp2_with fail
    go_returns
    exact ⟨by simp [a1, a2, a3] <;> omega, Ext.refl _⟩
  by_cases a4 : h ≤ 0
  all_goals
    go_enter Tryz.func38, Tryz.ntmps38
    go_wp2_with fail
    go_returns
    exact ⟨by simp [a1, a2, a3, a4] <;> omega, Ext.refl _⟩
theorem wcheck_c (k s h : Int) (w : World) : Calls Tryz.prog 14 #[wV k s h] w fun e w' => e = .returned (.int .i64 (if wmay k s h = true then 0 else 2)) ∧ Ext w w' := by
  obtain ⟨B, hB⟩ : ∃ B, B = wmay k s h := ⟨_, rfl⟩
  rw [← hB]
  have hb := hide (Ob.new w 24 (wL k s h))
  have c0 := hb.out.cell 0 rfl
  have hl := hb.out.lt
  haveI : In w.heap.size (w.alloc (.cells #[.int .i64 k, .int .i64 s, .int .i64 h] 24)) := ⟨hl⟩
  by_cases k1 : k = 1
  · subst k1
    have hu := hide (wup0_c w.heap.size 1 s h _ hb.out)
    rw [show (decide (s = 0) && decide (h = 0)) = B by rw [hB]; simp [wmay]] at hu
    clear hB
    cases B
    all_goals
      go_enter Tryz.func14, Tryz.ntmps14
      go_wp2_with (go_at_call 38; (with_reducible refine seq_gw hu.out ?_); intro g)
      go_returns
      exact ⟨by first | rfl | simp, ((Ext.refl w).alloc _).trans g.grown⟩
  have k1b : (k == 1) = false := by simpa using k1
  by_cases k2 : k = 2
  · subst k2
    have hu := hide (wup2_c w.heap.size 2 s h _ hb.out)
    rw [show (hlen s && hlen h) = B by rw [hB]; simp [wmay]] at hu
    clear hB k1
    cases B
    all_goals
      go_enter Tryz.func14, Tryz.ntmps14
      go_wp2_with (go_at_call 38; (with_reducible refine seq_gw hu.out ?_); intro g)
      go_returns
      exact ⟨by first | rfl | simp, ((Ext.refl w).alloc _).trans g.grown⟩
  have k2b : (k == 2) = false := by simpa using k2
  by_cases k3 : k = 3
  · subst k3
    have hu := hide (wup3_c w.heap.size 3 s h _ hb.out)
    rw [show ((decide (1 ≤ s) && decide (s ≤ 64)) && decide (h = 0)) = B by rw [hB]; simp [wmay]] at hu
    clear hB k1 k2
    cases B
    all_goals
      go_enter Tryz.func14, Tryz.ntmps14
      go_wp2_with (go_at_call 38; (with_reducible refine seq_gw hu.out ?_); intro g)
      go_returns
      exact ⟨by first | rfl | simp, ((Ext.refl w).alloc _).trans g.grown⟩
  have k3b : (k == 3) = false := by simpa using k3
  have hB0 : B = false := by rw [hB]; unfold wmay; rw [if_neg k1, if_neg k2, if_neg k3]
  subst hB0
  clear hB k1 k2 k3
  go_enter Tryz.func14, Tryz.ntmps14
  go_wp2_with fail
  go_returns
  exact ⟨by first | rfl | simp, (Ext.refl w).alloc _⟩
theorem wwrong_c (k s h : Int) (L : List Ve) (t : Int) (v : Value) (w : World) (hC : Ew w [] v L) : Calls Tryz.prog 32 #[wV k s h, v, .int .i64 t] w fun e w' => e = .returned (.int .i64 (wrE k s h (eds L) t)) ∧ Ext w w' := by
  have hk := hide (fun w' => wcheck_c k s h w')
  have h1 := hide (fun w' (hX : Ext w w') => edgeMay_c L v w' (hC.ext hX))
  have h2 := hide (fun w' (hX : Ext w w') => edgeTable_c L v w' (hC.ext hX))
  obtain ⟨A, cap, rfl, hlc, hlm, -⟩ := ew_form hC
  clear hC
  cases hm : wmay k s h
  · have e1 : wrE k s h (eds L) t = 2 := by unfold wrE; rw [hm]; simp
    rw [e1]
    rw [hm] at hk
    rw [if_neg (by decide)] at hk
    clear hm e1
    go_enter Tryz.func32, Tryz.ntmps32
    go_wp2_with (first | (go_at_call 14; (with_reducible refine seq_gw (hk.out _) ?_); intro g1))
    go_returns
    exact ⟨by first | rfl | simp, ((Ext.refl w).alloc _).trans g1.grown⟩
  cases ha : mayE (eds L)
  · have e1 : wrE k s h (eds L) t = 2 := by unfold wrE; rw [ha]; simp
    rw [e1]
    rw [hm, if_pos rfl] at hk
    rw [ha] at h1
    clear hm ha e1
    go_enter Tryz.func32, Tryz.ntmps32
    go_wp2_with (first | (go_at_call 14; (with_reducible refine seq_gw (hk.out _) ?_); intro g1) | (go_at_call 45; (with_reducible refine seq_gw (h1.out _ (((Ext.refl w).alloc _).trans g1.grown)) ?_); intro g2))
    go_returns
    exact ⟨by first | rfl | simp, (((Ext.refl w).alloc _).trans g1.grown).trans g2.grown⟩
  cases hb : tabE (eds L)
  · have e1 : wrE k s h (eds L) t = 20 := by unfold wrE; rw [if_pos ⟨hm, ha⟩, hb]; rfl
    rw [e1]
    rw [hm, if_pos rfl] at hk
    rw [ha] at h1
    rw [hb] at h2
    clear hm ha hb e1
    go_enter Tryz.func32, Tryz.ntmps32
    go_wp2_with (first | (go_at_call 14; (with_reducible refine seq_gw (hk.out _) ?_); intro g1) | (go_at_call 45; (with_reducible refine seq_gw (h1.out _ (((Ext.refl w).alloc _).trans g1.grown)) ?_); intro g2) | (go_at_call 54; (with_reducible refine seq_gw (h2.out _ ((((Ext.refl w).alloc _).trans g1.grown).trans g2.grown)) ?_); intro g3))
    go_returns
    exact ⟨by first | rfl | simp, ((((Ext.refl w).alloc _).trans g1.grown).trans g2.grown).trans g3.grown⟩
  have e1 : wrE k s h (eds L) t = if stick t = true then 0 else 13 := by unfold wrE; rw [if_pos ⟨hm, ha⟩, if_pos hb]
  rw [e1]
  rw [hm, if_pos rfl] at hk
  rw [ha] at h1
  rw [hb] at h2
  clear hm ha hb e1
  by_cases t1 : t < 0
  · have e2 : (if stick t = true then (0 : Int) else 13) = 13 := if_neg (fun c => by have := (stick_iff.1 c).1; omega)
    rw [e2]
    clear e2
    go_enter Tryz.func32, Tryz.ntmps32
    go_wp2_with (first | (go_at_call 14; (with_reducible refine seq_gw (hk.out _) ?_); intro g1) | (go_at_call 45; (with_reducible refine seq_gw (h1.out _ (((Ext.refl w).alloc _).trans g1.grown)) ?_); intro g2) | (go_at_call 54; (with_reducible refine seq_gw (h2.out _ ((((Ext.refl w).alloc _).trans g1.grown).trans g2.grown)) ?_); intro g3))
    go_returns
    exact ⟨by first | rfl | simp, ((((Ext.refl w).alloc _).trans g1.grown).trans g2.grown).trans g3.grown⟩
  by_cases t2 : 1125899906842624 < t
  · have e2 : (if stick t = true then (0 : Int) else 13) = 13 := if_neg (fun c => by have := (stick_iff.1 c).2; omega)
    rw [e2]
    clear e2
    go_enter Tryz.func32, Tryz.ntmps32
    go_wp2_with (first | (go_at_call 14; (with_reducible refine seq_gw (hk.out _) ?_); intro g1) | (go_at_call 45; (with_reducible refine seq_gw (h1.out _ (((Ext.refl w).alloc _).trans g1.grown)) ?_); intro g2) | (go_at_call 54; (with_reducible refine seq_gw (h2.out _ ((((Ext.refl w).alloc _).trans g1.grown).trans g2.grown)) ?_); intro g3))
    go_returns
    exact ⟨by first | rfl | simp, ((((Ext.refl w).alloc _).trans g1.grown).trans g2.grown).trans g3.grown⟩
  have e2 : (if stick t = true then (0 : Int) else 13) = 0 := if_pos (stick_iff.2 ⟨by omega, by omega⟩)
  rw [e2]
  clear e2
  go_enter Tryz.func32, Tryz.ntmps32
  go_wp2_with (first | (go_at_call 14; (with_reducible refine seq_gw (hk.out _) ?_); intro g1) | (go_at_call 45; (with_reducible refine seq_gw (h1.out _ (((Ext.refl w).alloc _).trans g1.grown)) ?_); intro g2) | (go_at_call 54; (with_reducible refine seq_gw (h2.out _ ((((Ext.refl w).alloc _).trans g1.grown).trans g2.grown)) ?_); intro g3))
  go_returns
  exact ⟨by first | rfl | simp, ((((Ext.refl w).alloc _).trans g1.grown).trans g2.grown).trans g3.grown⟩
theorem frV_next {l : List Ed} {k : Nat} {e : Ed} (h : l[k]? = some e) (t : Int) : frV (l.take (k + 1)) t = if 0 < e.2.2 then max (frV (l.take k) t) (e.2.1 + 1) else frV (l.take k) t := by
  unfold frV
  rw [List.take_add_one, h, Option.toList_some, List.foldl_append]
  rfl
set_option maxHeartbeats 4000000 in
theorem wfront_c (L : List Ve) (hm : mayE (eds L) = true) (t : Int) (v : Value) (w : World) (hC : Ew w [] v L) : Calls Tryz.prog 40 #[v, .int .i64 t] w fun e w' => e = .returned (.int .i64 (frV (eds L) t)) ∧ Ext w w' := by
  have hC' := hide hC
  have hLl : L.length ≤ 4096 := by have := mayE_len hm; simpa [eds] using this
  have hin : Hid (∀ e ∈ eds L, -1 ≤ e.2.1 ∧ e.2.1 < 1125899906842624) := fun e he => mayJ_at (mayJ_jmps hm e.1) e.2 (by unfold jmps; exact List.mem_map.2 ⟨e, List.mem_filter.2 ⟨he, by simp⟩, rfl⟩)
  obtain ⟨A, cap, rfl, hlc, hlm, -⟩ := ew_form hC
  unfold maxLen at hlm
  clear hC
  go_enter Tryz.func40, Tryz.ntmps40
  go_wp2_with fail
  go_loopg [1, 9] L.length (fun gh u i wr => ∃ (k : Nat) (z : Int), i = .int .i64 k ∧ k + gh = L.length ∧ u = .int .i64 z ∧ Hid (z = frV ((eds L).take k) t) ∧ Hid (Ext w wr))
  case atStart => exact ⟨0, t, by go_num, by omega, rfl, rfl, Ext.refl _⟩
  case round =>
    obtain ⟨k, z, rfl, hk, rfl, hz, hX⟩ := hrel
    by_cases hlt : k < L.length
    · obtain ⟨⟨u, q, a, d⟩, hd⟩ : ∃ p, L[k]? = some p := ⟨_, List.getElem?_eq_getElem hlt⟩
      obtain ⟨A', cap', e', -, -, hat⟩ := ew_form (hC'.out.ext hX.out)
      simp only [Value.slice.injEq] at e'
      obtain ⟨rfl, -, rfl⟩ := e'
      obtain ⟨b, o, rfl, -, hbl, c0, c1, c2⟩ := hat k _ hd
      have hr := (hC'.out.ext hX.out).2 _ (List.mem_of_getElem? hd)
      simp only at c0 c1 c2 hr
      obtain ⟨UA, ucap, rfl⟩ := rw_val hr
      have hde : (eds L)[k]? = some (q, a, d) := by rw [List.getElem?_map, hd]; rfl
      have hnx := hide (frV_next hde t)
      have hab := hin.out _ (List.mem_of_getElem? hde)
      simp only at hab
      rw [← hz.out] at hnx
      haveI : In b wr := ⟨hbl⟩
      clear hat hd hde hr
      by_cases hd0 : 0 < d
      · rw [if_pos hd0] at hnx
        obtain ⟨y, hy⟩ : ∃ y, y = max z (a + 1) := ⟨_, rfl⟩
        rw [← hy] at hnx
        have hmx : max z (a + 1) = y := hy.symm
        replace hy := hide hy
        go_wp2_with fail
        go_roundg (L.length - (k + 1))
        case measure => omega
        case rel => exact ⟨k + 1, y, by go_num, by omega, rfl, hnx.out.symm, hX.out.alloc _⟩
      · rw [if_neg hd0] at hnx
        go_wp2_with fail
        go_roundg (L.length - (k + 1))
        case measure => omega
        case rel => exact ⟨k + 1, z, by go_num, by omega, rfl, hnx.out.symm, hX.out.alloc _⟩
    · have hfin := hide (show z = frV (eds L) t by rw [hz.out, List.take_of_length_le (by simp [eds]; omega)])
      go_wp2_with fail
      go_returns
      exact ⟨by rw [hfin.out]; rfl, hX.out⟩
set_option maxHeartbeats 4000000 in
theorem wclock_c (k s h : Int) (L : List Ve) (t : Int) (v : Value) (w : World) (hC : Ew w [] v L) : Calls Tryz.prog 12 #[wV k s h, v, .int .i64 t] w fun e w' => e = .returned (.tuple #[.int .i64 (wcV k s h (eds L) t), .int .i64 (wrE k s h (eds L) t)]) ∧ Ext w w' := by
  have hw := hide (fun w' (hX : Ext w w') => wwrong_c k s h L t v w' (hC.ext hX))
  have ho := hide (fun w' => hopen_c s h t w')
  have hc := hide (fun w' (hX : Ext w w') => copen_c L s t v w' (hC.ext hX))
  obtain ⟨A, cap, rfl, hlc, hlm, -⟩ := ew_form hC
  clear hC
  obtain ⟨E, hE⟩ : ∃ E, E = wrE k s h (eds L) t := ⟨_, rfl⟩
  rw [← hE] at hw ⊢
  have hb := hide (Ob.new w 24 (wL k s h))
  have c0 := hb.out.cell 0 rfl
  have c1 := hb.out.cell 1 rfl
  have c2 := hb.out.cell 2 rfl
  have hl := hb.out.lt
  haveI : In w.heap.size (w.alloc (.cells #[.int .i64 k, .int .i64 s, .int .i64 h] 24)) := ⟨hl⟩
  by_cases hE0 : E = 0
  case neg =>
    have e1 : wcV k s h (eds L) t = 0 := by unfold wcV; rw [← hE, if_neg hE0]
    rw [e1]
    have hbE : (E != 0) = true := by simpa using hE0
    replace hE := hide hE
    clear e1
    go_enter Tryz.func12, Tryz.ntmps12
    go_wp2_with (go_at_call 32; (with_reducible refine seq_gw (hw.out _ ((Ext.refl w).alloc _)) ?_); intro g1)
    go_returns
    exact ⟨rfl, ((Ext.refl w).alloc _).trans g1.grown⟩
  subst hE0
  obtain ⟨a1, a2, a3, a4, a5⟩ := wrE_zero hE.symm
  obtain ⟨V, hV⟩ : ∃ V, V = wcV k s h (eds L) t := ⟨_, rfl⟩
  rw [← hV]
  have hVe : V = if k = 2 then min t (hopV s h t) else if k = 3 then coV (eds L) s t else t := by rw [hV]; unfold wcV; rw [← hE, if_pos rfl]
  clear hV
  rcases wmay_kind a1 with ⟨rfl, -, -⟩ | ⟨rfl, c, d⟩ | ⟨rfl, c, -⟩
  · rw [if_neg (by decide), if_neg (by decide)] at hVe
    subst hVe
    replace hE := hide hE
    clear a1 a2 a3 a4 a5
    go_enter Tryz.func12, Tryz.ntmps12
    go_wp2_with (go_at_call 32; (with_reducible refine seq_gw (hw.out _ ((Ext.refl w).alloc _)) ?_); intro g1)
    go_returns
    exact ⟨rfl, ((Ext.refl w).alloc _).trans g1.grown⟩
  · rw [if_pos rfl] at hVe
    rw [hopE_of c d ⟨a4, a5⟩] at ho
    obtain ⟨O, hO⟩ : ∃ O, O = hopV s h t := ⟨_, rfl⟩
    rw [← hO] at hVe ho
    have hmn : min t O = V := hVe.symm
    replace hE := hide hE
    replace hO := hide hO
    replace hVe := hide hVe
    clear a1 a2 a3 a4 a5 c d
    go_enter Tryz.func12, Tryz.ntmps12
    go_wp2_with (first | (go_at_call 32; (with_reducible refine seq_gw (hw.out _ ((Ext.refl w).alloc _)) ?_); intro g1) | (go_at_call 33; (with_reducible refine seq_gw (ho.out _) ?_); intro g2))
    go_returns
    exact ⟨by first | rfl | simp [hmn], (((Ext.refl w).alloc _).trans g1.grown).trans g2.grown⟩
  · rw [if_neg (by decide), if_pos rfl] at hVe
    rw [ssE_of c a2 a3 ⟨a4, a5⟩, ← hVe] at hc
    replace hE := hide hE
    replace hVe := hide hVe
    clear a1 a2 a3 a4 a5 c
    go_enter Tryz.func12, Tryz.ntmps12
    go_wp2_with (first | (go_at_call 32; (with_reducible refine seq_gw (hw.out _ ((Ext.refl w).alloc _)) ?_); intro g1) | (go_at_call 34; (with_reducible refine seq_gw (hc.out _ (((Ext.refl w).alloc _).trans g1.grown)) ?_); intro g2))
    go_returns
    exact ⟨rfl, (((Ext.refl w).alloc _).trans g1.grown).trans g2.grown⟩
end Go.Proofs.YtljkneajdndgjaaGreat
set_option linter.unusedVariables false
set_option linter.unusedSimpArgs false
namespace Go.Proofs.YtljkneajdndgjaaGreat
open Go.RowKit
attribute [local go_sem] GW.cell GW.frozen In.eq_true In.le_true In.ne In.ne' In.ne_add In.ne_add' In.lt_add Upto.le_true Upto.le_add Upto.lt_add
def hpF (l : List Ed) (s h f r : Int) (B : Nat) (v : Value) (w : World) : Prop := ∃ v' P, v = .tuple #[v', .int .i64 (hpE l s h f r)] ∧ pts P = hpL l s h f r ∧ OwnP w B v' P
theorem hpF.ext {l : List Ed} {s h f r : Int} {B : Nat} {v : Value} {w w' : World} (a : hpF l s h f r B v w) (k : Ext w w') : hpF l s h f r B v w' := by obtain ⟨v', P, h1, h2, h3⟩ := a; exact ⟨v', P, h1, h2, h3.ext k⟩
def hqF (l : List Ed) (s h f r : Int) (B : Nat) (v : Value) (w : World) : Prop := ∃ P, pts P = hpL l s h f r ∧ OwnP w B v P
theorem hqF.ext {l : List Ed} {s h f r : Int} {B : Nat} {v : Value} {w w' : World} (a : hqF l s h f r B v w) (k : Ext w w') : hqF l s h f r B v w' := by obtain ⟨P, h2, h3⟩ := a; exact ⟨P, h2, h3.ext k⟩
def eqF (x v : Value) (_ : World) : Prop := v = x
set_option maxHeartbeats 8000000 in
set_option maxRecDepth 100000 in
theorem wparts_c (k s q : Int) (L : List Ve) (f t : Int) (v : Value) (w : World) (hC : Ew w [] v L) : Calls Tryz.prog 16 #[wV k s q, v, .int .i64 f, .int .i64 t] w fun e w' => ∃ v' P, e = .returned (.tuple #[v', .int .i64 (wpE k s q (eds L) f t)]) ∧ pts P = wpL k s q (eds L) f t ∧ OwnP w' w.heap.size v' P ∧ Ext w w' := by
  have hw := hide (fun w' (hX : Ext w w') => wwrong_c k s q L t v w' (hC.ext hX))
  have hcp := hide (fun w' (hX : Ext w w') => cpParts_c L s f v w' (hC.ext hX))
  have hsp := hide (fun w' (hX : Ext w w') => snParts_c L f v w' (hC.ext hX))
  have hhp0 := hide (fun R w' (hX : Ext w w') => hpParts_c L s q f R v w' (hC.ext hX))
  have hfr0 := hide (fun hm w' (hX : Ext w w') => wfront_c L hm t v w' (hC.ext hX))
  obtain ⟨A, cap, rfl, hlc, hlm, -⟩ := ew_form hC
  clear hC
  obtain ⟨E, hE⟩ : ∃ E, E = wrE k s q (eds L) t := ⟨_, rfl⟩
  rw [← hE] at hw
  have hb := hide (Ob.new w 24 (wL k s q))
  have c0 := hb.out.cell 0 rfl
  have c1 := hb.out.cell 1 rfl
  have c2 := hb.out.cell 2 rfl
  have hl := hb.out.lt
  haveI : In w.heap.size (w.alloc (.cells #[.int .i64 k, .int .i64 s, .int .i64 q] 24)) := ⟨hl⟩
  by_cases hE0 : E = 0
  case neg =>
    have e1 : wpE k s q (eds L) f t = E := by unfold wpE; rw [← hE, if_neg hE0]
    have e2 : wpL k s q (eds L) f t = [] := by unfold wpL; rw [← hE, if_neg hE0]
    rw [e1, e2]
    have hbE : (E != 0) = true := by simpa using hE0
    replace hE := hide hE
    clear e1 e2
    go_enter Tryz.func16, Tryz.ntmps16
    go_wp2_with (go_at_call 32; (with_reducible refine seq_gw (hw.out _ ((Ext.refl w).alloc _)) ?_); intro g1)
    go_returns
    exact ⟨_, [], rfl, rfl, OwnP.nil _ _, ((Ext.refl w).alloc _).trans g1.grown⟩
  subst hE0
  obtain ⟨a1, a2, a3, a4, a5⟩ := wrE_zero hE.symm
  obtain ⟨V, hV⟩ : ∃ V, V = wpE k s q (eds L) f t := ⟨_, rfl⟩
  obtain ⟨U, hU⟩ : ∃ U, U = wpL k s q (eds L) f t := ⟨_, rfl⟩
  rw [← hV, ← hU]
  have hVe : V = if k = 2 then hpE (eds L) s q f (frV (eds L) t) else if k = 3 then cpE (eds L) s f else snE (eds L) f := by rw [hV]; unfold wpE; rw [← hE, if_pos rfl]
  have hUe : U = if k = 2 then hpL (eds L) s q f (frV (eds L) t) else if k = 3 then cpL (eds L) s f else snL (eds L) f := by rw [hU]; unfold wpL; rw [← hE, if_pos rfl]
  clear hV hU
  rcases wmay_kind a1 with ⟨rfl, -, -⟩ | ⟨rfl, -, -⟩ | ⟨rfl, -, -⟩
  · rw [if_neg (by decide), if_neg (by decide)] at hVe hUe
    rw [← hVe, ← hUe] at hsp
    replace hE := hide hE
    replace hVe := hide hVe
    replace hUe := hide hUe
    clear a1 a2 a3 a4 a5
    go_enter Tryz.func16, Tryz.ntmps16
    go_wp2_with (first | (go_at_call 32; (with_reducible refine seq_gw (hw.out _ ((Ext.refl w).alloc _)) ?_); intro g1) | (go_at_call 29; refine (hsp.out _ (((Ext.refl w).alloc _).trans g1.grown)).mono ?_; rintro ee w5 ⟨v5, P, rfl, hP, ho5, hx5⟩; have hP5 := hide hP; have hX5 := hide ((((Ext.refl w).alloc _).trans g1.grown).trans hx5); have ho6 := hide (ho5.base (((Ext.refl w).alloc (.cells #[.int .i64 1, .int .i64 s, .int .i64 q] 24)).trans g1.grown).size); obtain ⟨A5, c5, q5⟩ := ho5.form; subst q5; clear hP ho5 hx5))
    go_returns
    exact ⟨_, P, rfl, hP5.out, ho6.out, hX5.out⟩
  · rw [if_pos rfl] at hVe hUe
    have hfr1 := hide (hfr0.out a2)
    obtain ⟨R, hR⟩ : ∃ R, R = frV (eds L) t := ⟨_, rfl⟩
    rw [← hR] at hVe hUe hfr1
    subst hVe
    subst hUe
    replace hE := hide hE
    replace hR := hide hR
    clear a1 a2 a3 a4 a5
    go_enter Tryz.func16, Tryz.ntmps16
    go_upto_region 6 with (go_at_call 32; (with_reducible refine seq_gw (hw.out _ ((Ext.refl w).alloc _)) ?_); intro g1)
    obtain ⟨W1, hW1⟩ : ∃ W1, W1 = g1.val := ⟨_, rfl⟩
    have hXW := hide (((Ext.refl w).alloc (.cells #[.int .i64 2, .int .i64 s, .int .i64 q] 24)).trans g1.grown)
    have hb1 := hb.out.ext g1.grown
    have hc1 := hide (hb1.cell 1 rfl)
    have hc2 := hide (hb1.cell 2 rfl)
    rw [← hW1] at hXW hb1 hc1 hc2 ⊢
    have hzW := hXW.out.size
    have hfr := hide (fun w' (hX : Ext W1 w') => hfr1.out w' (hXW.out.trans hX))
    have hhp := hide (fun w' (hX : Ext W1 w') => hhp0.out R w' (hXW.out.trans hX))
    obtain ⟨bw, hbw⟩ : ∃ bw, bw = w.heap.size := ⟨_, rfl⟩
    rw [← hbw] at hb1 hc1 hc2 ⊢
    clear hbw hW1
    clear c0 c1 c2 hl
    refine wp_region_list_tail 12 [(.is ((.slice A L.length cap))), (.is ((.pointer (some ⟨bw, 1, none⟩)))), (.is ((.int .i64 s))), (.is ((.pointer (some ⟨bw, 2, none⟩)))), (.is ((.int .i64 q))), (.is ((.int .i64 f))), (.is ((.slice A L.length cap))), (.is ((.int .i64 t))), (.is ((.int .i64 R))), (.st (hpF (eds L) s q f R W1.heap.size) (fun _ _ _ h k => h.ext k)), (.st (hqF (eds L) s q f R W1.heap.size) (fun _ _ _ h k => h.ext k)), (.st (eqF (.int .i64 (hpE (eds L) s q f R))) (fun _ _ _ h _ => h))] (by kernel_rfl) (by kernel_rfl) (by kernel_rfl) (by kernel_rfl) (by kernel_rfl) (by kernel_rfl) (by kernel_rfl) ?_ ?_
    · refine ⟨?_, ?_, ?_, ?_, ?_, ?_, ?_, ?_, ?_, ?_, ?_, ?_, trivial⟩
      · intro b w' h hE
        have f1 : b.tmps.getD 1 undef = (.slice A L.length cap) := hE 1 (of_decide_eq_true (by kernel_rfl))
        exact good_move (wanted_none rfl) rfl f1
      · intro b w' h hE
        have f4 : b.tmps.getD 4 undef = (.pointer (some ⟨bw, 0, none⟩)) := hE 4 (of_decide_eq_true (by kernel_rfl))
        exact good_field (wanted_none rfl) rfl f4 (by simp [go_sem]) rfl
      · intro b w' h hE
        have f23 : b.tmps.getD 23 undef = (.pointer (some ⟨bw, 1, none⟩)) := h.dep 1 _ 23 (by kernel_rfl) rfl rfl
        have c0 := cell_later h.ext hc1.out
        exact good_load (wanted_none rfl) rfl f23 (by simp [go_sem, c0]) rfl
      · intro b w' h hE
        have f4 : b.tmps.getD 4 undef = (.pointer (some ⟨bw, 0, none⟩)) := hE 4 (of_decide_eq_true (by kernel_rfl))
        exact good_field (wanted_none rfl) rfl f4 (by simp [go_sem]) rfl
      · intro b w' h hE
        have f25 : b.tmps.getD 25 undef = (.pointer (some ⟨bw, 2, none⟩)) := h.dep 3 _ 25 (by kernel_rfl) rfl rfl
        have c0 := cell_later h.ext hc2.out
        exact good_load (wanted_none rfl) rfl f25 (by simp [go_sem, c0]) rfl
      · intro b w' h hE
        have f2 : b.tmps.getD 2 undef = (.int .i64 f) := hE 2 (of_decide_eq_true (by kernel_rfl))
        exact good_move (wanted_none rfl) rfl f2
      · intro b w' h hE
        have f1 : b.tmps.getD 1 undef = (.slice A L.length cap) := hE 1 (of_decide_eq_true (by kernel_rfl))
        exact good_move (wanted_none rfl) rfl f1
      · intro b w' h hE
        have f3 : b.tmps.getD 3 undef = (.int .i64 t) := hE 3 (of_decide_eq_true (by kernel_rfl))
        exact good_move (wanted_none rfl) rfl f3
      · intro b w' h hE
        have f28 : b.tmps.getD 28 undef = (.slice A L.length cap) := h.dep 6 _ 28 (by kernel_rfl) rfl rfl
        have g28 : b.tmps[28]?.getD undef = (.slice A L.length cap) := by rw [← Array.getD_eq_getD_getElem?]; exact f28
        have f29 : b.tmps.getD 29 undef = (.int .i64 t) := h.dep 7 _ 29 (by kernel_rfl) rfl rfl
        have g29 : b.tmps[29]?.getD undef = (.int .i64 t) := by rw [← Array.getD_eq_getD_getElem?]; exact f29
        (refine good_call (wanted_none rfl) rfl (enters Tryz.func40 (by kernel_rfl) rfl) ?_; rw [show (#[.tmp 28, .tmp 29] : Array Operand).map b.eval = #[.slice A L.length cap, .int .i64 t] by simp [Act.eval, g28, g29]]; exact (hfr.out w' h.ext).mono fun e w1 ⟨he, hx⟩ => ⟨_, he, rfl, hx⟩)
      · intro b w' h hE
        have f22 : b.tmps.getD 22 undef = (.slice A L.length cap) := h.dep 0 _ 22 (by kernel_rfl) rfl rfl
        have g22 : b.tmps[22]?.getD undef = (.slice A L.length cap) := by rw [← Array.getD_eq_getD_getElem?]; exact f22
        have f24 : b.tmps.getD 24 undef = (.int .i64 s) := h.dep 2 _ 24 (by kernel_rfl) rfl rfl
        have g24 : b.tmps[24]?.getD undef = (.int .i64 s) := by rw [← Array.getD_eq_getD_getElem?]; exact f24
        have f26 : b.tmps.getD 26 undef = (.int .i64 q) := h.dep 4 _ 26 (by kernel_rfl) rfl rfl
        have g26 : b.tmps[26]?.getD undef = (.int .i64 q) := by rw [← Array.getD_eq_getD_getElem?]; exact f26
        have f27 : b.tmps.getD 27 undef = (.int .i64 f) := h.dep 5 _ 27 (by kernel_rfl) rfl rfl
        have g27 : b.tmps[27]?.getD undef = (.int .i64 f) := by rw [← Array.getD_eq_getD_getElem?]; exact f27
        have f30 : b.tmps.getD 30 undef = (.int .i64 R) := h.dep 8 _ 30 (by kernel_rfl) rfl rfl
        have g30 : b.tmps[30]?.getD undef = (.int .i64 R) := by rw [← Array.getD_eq_getD_getElem?]; exact f30
        refine good_call (wanted_none rfl) rfl (enters Tryz.func25 (by kernel_rfl) rfl) ?_
        rw [show (#[.tmp 22, .tmp 24, .tmp 26, .tmp 27, .tmp 30] : Array Operand).map b.eval = #[.slice A L.length cap, .int .i64 s, .int .i64 q, .int .i64 f, .int .i64 R] by simp [Act.eval, g22, g24, g26, g27, g30]]
        exact (hhp.out w' h.ext).mono fun e w1 ⟨v', P, he, hP, ho, hx⟩ => ⟨_, he, ⟨v', P, rfl, hP, ho.base h.ext.size⟩, hx⟩
      · intro b w' h hE
        have f31 : hpF (eds L) s q f R W1.heap.size (b.tmps.getD 31 undef) w' := h.dep 9 _ 31 (by kernel_rfl) rfl rfl
        obtain ⟨v', P, e31, hP, hO⟩ := f31
        have g31 : b.tmps[31]?.getD undef = .tuple #[v', .int .i64 (hpE (eds L) s q f R)] := by rw [← Array.getD_eq_getD_getElem?]; exact e31
        exact good_run (wanted_none rfl) (v := v') (by simp [execOp, Act.eval, go_sem, g31, Sem.run_bind, Sem.run_pure, Result.andThen_ok]) ⟨P, hP, hO⟩
      · intro b w' h hE
        have f31 : hpF (eds L) s q f R W1.heap.size (b.tmps.getD 31 undef) w' := h.dep 9 _ 31 (by kernel_rfl) rfl rfl
        obtain ⟨v', P, e31, hP, hO⟩ := f31
        have g31 : b.tmps[31]?.getD undef = .tuple #[v', .int .i64 (hpE (eds L) s q f R)] := by rw [← Array.getD_eq_getD_getElem?]; exact e31
        exact good_run (wanted_none rfl) (v := .int .i64 (hpE (eds L) s q f R)) (by simp [execOp, Act.eval, go_sem, g31, Sem.run_bind, Sem.run_pure, Result.andThen_ok]) rfl
    · intro b w2 hX2 hd hz he' hf
      have e22 : b.tmps.getD 22 undef = (.slice A L.length cap) := hf 0 _ 22 (by omega) rfl rfl
      have e23 : b.tmps.getD 23 undef = (.pointer (some ⟨bw, 1, none⟩)) := hf 1 _ 23 (by omega) rfl rfl
      have e24 : b.tmps.getD 24 undef = (.int .i64 s) := hf 2 _ 24 (by omega) rfl rfl
      have e25 : b.tmps.getD 25 undef = (.pointer (some ⟨bw, 2, none⟩)) := hf 3 _ 25 (by omega) rfl rfl
      have e26 : b.tmps.getD 26 undef = (.int .i64 q) := hf 4 _ 26 (by omega) rfl rfl
      have e27 : b.tmps.getD 27 undef = (.int .i64 f) := hf 5 _ 27 (by omega) rfl rfl
      have e28 : b.tmps.getD 28 undef = (.slice A L.length cap) := hf 6 _ 28 (by omega) rfl rfl
      have e29 : b.tmps.getD 29 undef = (.int .i64 t) := hf 7 _ 29 (by omega) rfl rfl
      have e30 : b.tmps.getD 30 undef = (.int .i64 R) := hf 8 _ 30 (by omega) rfl rfl
      have f31 : hpF (eds L) s q f R W1.heap.size (b.tmps.getD 31 undef) w2 := hf 9 _ 31 (by omega) rfl rfl
      have f32 : hqF (eds L) s q f R W1.heap.size (b.tmps.getD 32 undef) w2 := hf 10 _ 32 (by omega) rfl rfl
      have f33 : eqF (.int .i64 (hpE (eds L) s q f R)) (b.tmps.getD 33 undef) w2 := hf 11 _ 33 (by omega) rfl rfl
      have e := frame_puts hd hz he'
      obtain ⟨X, hXx⟩ : ∃ X : Nat → Value, ∀ d, b.tmps.getD d undef = X d := ⟨_, fun _ => rfl⟩
      rw [hXx] at e22 e23 e24 e25 e26 e27 e28 e29 e30 f31 f32 f33
      obtain ⟨v31, P31, q31, -, -⟩ := f31
      obtain ⟨P32, hP32, hO32⟩ := f32
      obtain ⟨A32, c32, q32⟩ := hO32.form
      rw [q32] at hO32
      have q33 := f33
      unfold eqF at q33
      rw [show dstsOf _ = [22, 23, 24, 25, 26, 27, 28, 29, 30, 31, 32, 33] from rfl] at e
      simp only [List.foldl_cons, List.foldl_nil, hXx, Act.put, List.setIfInBounds_toArray, List.set_cons_succ, List.set_cons_zero] at e
      rw [e22, e23, e24, e25, e26, e27, e28, e29, e30, q31, q32, q33] at e
      clear hf he' hz hd hXx e22 e23 e24 e25 e26 e27 e28 e29 e30 q31 q32 q33
      subst e
      have hzw := hX2.size
      simp only [List.drop_succ_cons, List.drop_zero]
      have hX9 := hide hX2
      have hP9 := hide hP32
      have hO9 := hide hO32
      clear hX2 hP32 hO32
      go_wp2_with fail
      go_returns
      exact ⟨_, P32, rfl, hP9.out, hO9.out.base hzW, hXW.out.trans hX9.out⟩
  · rw [if_neg (by decide), if_pos rfl] at hVe hUe
    rw [← hVe, ← hUe] at hcp
    replace hE := hide hE
    replace hVe := hide hVe
    replace hUe := hide hUe
    clear a1 a2 a3 a4 a5
    go_enter Tryz.func16, Tryz.ntmps16
    go_wp2_with (first | (go_at_call 32; (with_reducible refine seq_gw (hw.out _ ((Ext.refl w).alloc _)) ?_); intro g1) | (go_at_call 41; refine (hcp.out _ (((Ext.refl w).alloc _).trans g1.grown)).mono ?_; rintro ee w5 ⟨v5, P, rfl, hP, ho5, hx5⟩; have hP5 := hide hP; have hX5 := hide ((((Ext.refl w).alloc _).trans g1.grown).trans hx5); have ho6 := hide (ho5.base (((Ext.refl w).alloc (.cells #[.int .i64 3, .int .i64 s, .int .i64 q] 24)).trans g1.grown).size); obtain ⟨A5, c5, q5⟩ := ho5.form; subst q5; clear hP ho5 hx5))
    go_returns
    exact ⟨_, P, rfl, hP5.out, ho6.out, hX5.out⟩
theorem wn0_a : wrE 2 10 5 hpE0 12 = 0 := by decide +kernel
theorem wn0_b : wcV 2 10 5 hpE0 12 = 5 := by decide +kernel
theorem wn0_c : wpE 2 10 5 hpE0 0 2 = 0 := by decide +kernel
theorem wn0_d : wpL 2 10 5 hpE0 0 2 = [((0, 10), [(rOne, 1)])] := by kernel_rfl
theorem wn0_e : wmay 0 0 0 = false := by decide +kernel
theorem pts1 {P : List Vp} {a : Pt} (h : pts P = [a]) : ∃ x C, P = [(x, a.1, C)] ∧ cps C = a.2 := by
  match P, h with
  | [(x, s, C)], h =>
    simp only [pts, List.map_cons, List.map_nil, List.cons.injEq] at h
    exact ⟨x, C, by rw [← h.1], by rw [← h.1]⟩
set_option maxHeartbeats 8000000 in
set_option maxRecDepth 100000 in
theorem wLive_c (w : World) : Calls Tryz.prog 11 #[] w fun e w' => e = .returned (.bool true) ∧ Ext w w' := by
  obtain ⟨W0, hW0⟩ : ∃ W0, W0 = w.alloc (.cells #[.int .i64 2, .int .i64 10, .int .i64 5] 24) := ⟨_, rfl⟩
  obtain ⟨W2, hW2⟩ : ∃ W2, W2 = (W0.alloc oOne).alloc oOne := ⟨_, rfl⟩
  have hz0 : W0.heap.size = w.heap.size + 1 := by rw [hW0]; simp
  have h1 : Rw W2 [] (.slice (some ⟨W0.heap.size, 0, none⟩) 1 1) rOne := by rw [hW2]; exact Sl.ext (rwOne W0) ((Ext.refl _).alloc _)
  have h2 : Rw W2 [] (.slice (some ⟨W0.heap.size + 1, 0, none⟩) 1 1) rOne := by rw [hW2]; have := rwOne (W0.alloc oOne); rwa [World.size_alloc] at this
  have hz2 : W2.heap.size = W0.heap.size + 1 + 1 := by rw [hW2]; simp
  obtain ⟨L, hL⟩ : ∃ L : List Ve, L = [(.slice (some ⟨W0.heap.size, 0, none⟩) 1 1, rOne, (3, 1)), (.slice (some ⟨W0.heap.size + 1, 0, none⟩) 1 1, rOne, (7, -1))] := ⟨_, rfl⟩
  have hE : eds L = hpE0 := by rw [hL]; rfl
  have hEw : Ew (W2.alloc (oEdges W0)) [] (.slice (some ⟨W2.heap.size, 0, none⟩) 2 2) L := by
    refine ⟨?_, ?_⟩
    · have := Sl.own (S := []) (World.ownsRow_lit (base := W2.heap.size) (e := 58) (size := 3) W2 #[.slice (some ⟨W0.heap.size, 0, none⟩) 1 1, .int .i64 3, .int .i64 1, .slice (some ⟨W0.heap.size + 1, 0, none⟩) 1 1, .int .i64 7, .int .i64 (-1)] 2 (Nat.le_refl _) (by decide) rfl) (by simp)
      rw [hL]
      exact this
    · intro p hp
      rw [hL] at hp
      simp only [List.mem_cons, List.not_mem_nil, or_false] at hp
      rcases hp with rfl | rfl
      · exact Sl.alloc h1 _
      · exact Sl.alloc h2 _
  have hb : Ob (W2.alloc (oEdges W0)) w.heap.size 24 (wL 2 10 5) := by
    rw [hW2, hW0]
    exact (Ob.new w 24 (wL 2 10 5)).ext ((((Ext.refl _).alloc _).alloc _).alloc _)
  have hX3 : Ext w (W2.alloc (oEdges W0)) := by rw [hW2, hW0]; exact ((((Ext.refl w).alloc _).alloc _).alloc _).alloc _
  have hc := hide (fun w' (hX : Ext _ w') => wclock_c 2 10 5 L 12 _ w' (hEw.ext hX))
  have hp := hide (fun w' (hX : Ext _ w') => wparts_c 2 10 5 L 0 2 _ w' (hEw.ext hX))
  have hk := hide (fun w' => wcheck_c 0 0 0 w')
  rw [hE, wn0_a, wn0_b] at hc
  rw [hE, wn0_c, wn0_d] at hp
  rw [wn0_e, if_neg (by decide)] at hk
  rw [hz2, hz0] at hc hp
  have hb' := hide hb
  have hX3' := hide hX3
  rw [hW2] at hc hp hb' hX3'
  have e0 : oEdges W0 = .cells #[.slice (some ⟨w.heap.size + 1, 0, none⟩) 1 1, .int .i64 3, .int .i64 1, .slice (some ⟨w.heap.size + 1 + 1, 0, none⟩) 1 1, .int .i64 7, .int .i64 (-1)] 58 := by unfold oEdges; rw [hz0]
  rw [e0] at hc hp hb' hX3'
  clear hEw h1 h2 hL hE hX3 hb hz2 e0 hz0 hW2
  subst hW0
  have c0 := hb'.out.cell 0 rfl
  have c1 := hb'.out.cell 1 rfl
  have c2 := hb'.out.cell 2 rfl
  have hl := hb'.out.lt
  go_enter Tryz.func11, Tryz.ntmps11
  go_upto_region 3 with fail
  generalize ((((w.alloc (.cells #[.int .i64 2, .int .i64 10, .int .i64 5] 24)).alloc oOne).alloc oOne).alloc (.cells #[.slice (some ⟨w.heap.size + 1, 0, none⟩) 1 1, .int .i64 3, .int .i64 1, .slice (some ⟨w.heap.size + 1 + 1, 0, none⟩) 1 1, .int .i64 7, .int .i64 (-1)] 58)) = W5 at *
  have i5 : In w.heap.size W5 := ⟨hl⟩
  go_wp2_with (first
    | (go_at_call 12; (with_reducible refine seq_gw (hc.out _ (Ext.refl _)) ?_); intro g1; (have b1 := hb'.out.ext g1.grown); have y0 := b1.cell 0 rfl; have y1 := b1.cell 1 rfl; have y2 := b1.cell 2 rfl; clear b1)
    | (go_at_call 16; refine (hp.out _ g1.grown).mono ?_; rintro ee w5 ⟨v5, P, rfl, hP, ho5, hx5⟩; obtain ⟨x, C, rfl, hC⟩ := pts1 hP; have ho51 := ho5.1; obtain ⟨g5, c5, q5, -, l5⟩ := own_block2 ho51 (by simp); subst q5; (have z0 : w5.cell? ⟨g5, 0, none⟩ = some (.int .i64 0) := World.ownsRow.cellAt ho51 0 (by simp)); (have z1 : w5.cell? ⟨g5, 1, none⟩ = some (.int .i64 10) := World.ownsRow.cellAt ho51 1 (by simp)); have i6 : In g5 w5 := ⟨l5⟩; have hx6 := hide (hX3'.out.trans (g1.grown.trans hx5)); clear ho51 ho5 hP hC hx5)
    | (go_at_call 14; (with_reducible refine seq_gw (hk.out _) ?_); intro g2))
  go_returns
  exact ⟨by first | rfl | simp, hx6.out.trans g2.grown⟩
end Go.Proofs.YtljkneajdndgjaaGreat
