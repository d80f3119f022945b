/-
  A helper of ours: no claim of its own. Layer 29 (counts): the walk of CountsStarts.
-/
import Derived.Test.YtljkneajdndgjaaGreatCouP
import Derived.Test.YtljkneajdndgjaaGreatSnaP
import Derived.Test.YtljkneajdndgjaaGreatWinB
import Derived.Test.YtljkneajdndgjaaGreatHopF
import Derived.Test.YtljkneajdndgjaaGreatHopT
set_option linter.unusedVariables false
set_option linter.unusedSimpArgs false
namespace Go.Proofs.YtljkneajdndgjaaGreat
open Go.RowKit
attribute [local go_sem] GW.cell GW.frozen In.eq_true In.le_true In.ne In.ne' In.ne_add In.ne_add' In.lt_add Upto.le_true Upto.le_add Upto.lt_add
/-- What the document finds wrong. -/
def ckE (l : List Ed) (n : Int) : Int := if mayE l = true ∧ (1 ≤ n ∧ n ≤ 64) then (if tabE l = true then 0 else 20) else 2
theorem ckE_one (l : List Ed) : ckE l 1 = csE l := by unfold ckE csE; by_cases h : mayE l = true <;> simp [h]
theorem ssE_ck (l : List Ed) (n t : Int) : ssE l n t = if ckE l n = 0 then (if stick t = true then 0 else 13) else ckE l n := by
  unfold ssE ckE csE
  by_cases h : mayE l = true <;> by_cases h2 : 1 ≤ n ∧ n ≤ 64 <;> by_cases h3 : tabE l = true <;> by_cases h4 : 0 ≤ t ∧ t ≤ 1125899906842624 <;> simp [h, h2, h3, h4, stick]
set_option maxHeartbeats 4000000 in
theorem ccheck_c (L : List Ve) (n : Int) (v : Value) (w : World) (hC : Ew w [] v L) : Calls Tryz.prog 90 #[v, .int .i64 n] w fun e w' => e = .returned (.int .i64 (ckE (eds L) n)) ∧ Ext w w' := by
  have h1 := hide (fun w' (hX : Ext w w') => refEdgeMay_c L v w' (hC.ext hX))
  have h2 := hide (fun w' (hX : Ext w w') => refEdgeTable_c L v w' (hC.ext hX))
  obtain ⟨A, cap, rfl, hlc, hlm, -⟩ := ew_form hC
  unfold maxLen at hlm
  clear hC
  cases ha : mayE (eds L)
  · have e1 : ckE (eds L) n = 2 := by unfold ckE; rw [ha]; simp
    rw [e1]
    rw [ha] at h1
    clear ha e1
    go_enter Tryz.func90, Tryz.ntmps90
    go_wp2_with (go_at_call 61; (with_reducible refine seq_gw (h1.out _ (Ext.refl _)) ?_); intro g)
    go_returns
    exact ⟨rfl, g.grown⟩
  rw [ha] at h1
  by_cases n1 : 1 ≤ n
  case neg =>
    have e1 : ckE (eds L) n = 2 := by unfold ckE; rw [if_neg (fun k => n1 k.2.1)]
    rw [e1]
    have n2 : n < 1 := by omega
    clear ha e1 n1
    go_enter Tryz.func90, Tryz.ntmps90
    go_wp2_with (go_at_call 61; (with_reducible refine seq_gw (h1.out _ (Ext.refl _)) ?_); intro g)
    go_returns
    exact ⟨rfl, g.grown⟩
  by_cases n2 : n ≤ 64
  case neg =>
    have e1 : ckE (eds L) n = 2 := by unfold ckE; rw [if_neg (fun k => n2 k.2.2)]
    rw [e1]
    clear ha e1
    go_enter Tryz.func90, Tryz.ntmps90
    go_wp2_with (go_at_call 61; (with_reducible refine seq_gw (h1.out _ (Ext.refl _)) ?_); intro g)
    go_returns
    exact ⟨rfl, g.grown⟩
  have e1 : ckE (eds L) n = if tabE (eds L) = true then 0 else 20 := by unfold ckE; rw [if_pos ⟨ha, n1, n2⟩]
  rw [e1]
  clear ha e1
  cases hb : tabE (eds L)
  all_goals
    rw [hb] at h2
    clear hb
    go_enter Tryz.func90, Tryz.ntmps90
    go_wp2_with (first | (go_at_call 61; (with_reducible refine seq_gw (h1.out _ (Ext.refl _)) ?_); intro g) | (go_at_call 62; (with_reducible refine seq_gw' (h2.out _ g.grown) ?_); intro g2))
    go_returns
    exact ⟨rfl, g2.grown⟩
/-- Where something begins, edge by edge. -/
def stP (l : List Ed) : List Int := insAll ((l.filter fun e => decide (0 < e.2.2) && decide (0 ≤ e.2.1)).map fun e => e.2.1)
theorem stP_asc (l : List Ed) : (stP l).Pairwise (· < ·) := insAll_asc _
theorem stP_next {l : List Ed} {k : Nat} {e : Ed} (h : l[k]? = some e) : stP (l.take (k + 1)) = if 0 < e.2.2 ∧ 0 ≤ e.2.1 then ins (stP (l.take k)) e.2.1 else stP (l.take k) := by
  unfold stP
  rw [List.take_add_one, h, Option.toList_some, List.filter_append]
  by_cases c : 0 < e.2.2 ∧ 0 ≤ e.2.1
  · rw [if_pos c]
    have : ([e].filter fun e : Ed => decide (0 < e.2.2) && decide (0 ≤ e.2.1)) = [e] := by simp [c.1, c.2]
    rw [this, List.map_append]
    unfold insAll
    rw [List.foldl_append]
    rfl
  · rw [if_neg c]
    have : ([e].filter fun e : Ed => decide (0 < e.2.2) && decide (0 ≤ e.2.1)) = [] := by
      rw [List.filter_eq_nil_iff]
      intro x hx
      obtain rfl := List.mem_singleton.1 hx
      simpa using fun h => Int.not_le.1 fun k => c ⟨h, k⟩
    rw [this, List.append_nil]
theorem stP_len (l : List Ed) : (stP l).length ≤ l.length := by
  have h1 := nodup_len (stP l) ((l.filter fun e => decide (0 < e.2.2) && decide (0 ≤ e.2.1)).map fun e => e.2.1) (asc_nodup (stP_asc l)) (fun x hx => by unfold stP at hx; exact (insAll_mem _ x).1 hx)
  have h2 := List.length_filter_le (fun e : Ed => decide (0 < e.2.2) && decide (0 ≤ e.2.1)) l
  rw [List.length_map] at h1
  omega
theorem stP_eq {l : List Ed} (hm : mayE l = true) : stP l = csT l := by
  refine asc_unique (R := (· < · : Int → Int → Prop)) (fun a h => by omega) (fun a b h1 h2 => by omega) _ _ (stP_asc l) (csT_asc l) fun x => ?_
  unfold stP
  rw [insAll_mem, csT_mem hm]
  constructor
  · intro h
    obtain ⟨e, he, rfl⟩ := List.mem_map.1 h
    obtain ⟨h1, h2⟩ := List.mem_filter.1 he
    refine ⟨e.1, e.2, ?_, rfl⟩
    unfold incL jmps
    refine List.mem_filter.2 ⟨List.mem_map.2 ⟨e, List.mem_filter.2 ⟨h1, by simp⟩, rfl⟩, ?_⟩
    simp at h2 ⊢
    omega
  · rintro ⟨r, j, hj, rfl⟩
    unfold incL jmps at hj
    obtain ⟨h1, h2⟩ := List.mem_filter.1 hj
    obtain ⟨e, he, rfl⟩ := List.mem_map.1 h1
    refine List.mem_map.2 ⟨e, List.mem_filter.2 ⟨(List.mem_filter.1 he).1, ?_⟩, rfl⟩
    simp at h2 ⊢
    omega
set_option maxHeartbeats 8000000 in
set_option maxRecDepth 100000 in
theorem refStarts_c (L : List Ve) (hLs : L.length ≤ 4000) (v : Value) (w : World) (hC : Ew w [] v L) : Calls Tryz.prog 91 #[v] w fun e w' => ∃ v', e = .returned (.tuple #[v', .int .i64 (csE (eds L))]) ∧ Zw w' [] v' (csL (eds L)) ∧ Ext w w' := by
  have h1 := hide (fun w' (hX : Ext w w') => ccheck_c L 1 v w' (hC.ext hX))
  rw [ckE_one] at h1
  have hC' := hide hC
  obtain ⟨A, cap, rfl, hlc, hlm, -⟩ := ew_form hC
  unfold maxLen at hlm
  clear hC
  obtain ⟨E, hE⟩ : ∃ E, E = csE (eds L) := ⟨_, rfl⟩
  rw [← hE] at h1 ⊢
  by_cases hE0 : E = 0
  case neg =>
    have e2 : csL (eds L) = [] := by unfold csL; rw [← hE, if_neg hE0]
    rw [e2]
    have hb : (E != 0) = true := by simpa using hE0
    replace hE := hide hE
    clear e2
    go_enter Tryz.func91, Tryz.ntmps91
    go_wp2_with (go_at_call 90; (with_reducible refine seq_gw (h1.out _ (Ext.refl _)) ?_); intro g)
    go_returns
    exact ⟨_, rfl, Sl.nil _ _ _, g.grown⟩
  subst hE0
  have hm : mayE (eds L) = true := by
    unfold csE at hE
    split at hE
    · assumption
    · exact absurd hE (by decide)
  have e2 : csL (eds L) = stP (eds L) := by unfold csL; rw [← hE, if_pos rfl, stP_eq hm]
  rw [e2]
  replace hE := hide hE
  clear e2 hm
  go_enter Tryz.func91, Tryz.ntmps91
  go_wp2_with (go_at_call 90; (with_reducible refine seq_gw (h1.out _ (Ext.refl _)) ?_); intro g)
  have hz0 := hide (show Zw (g.val.alloc (.cells #[] 3)) [] (.slice (some ⟨g.val.heap.size, 0, none⟩) 0 0) (stP ((eds L).take 0)) from own_zw (B := g.val.heap.size) (l := []) (World.ownsRow_lit (base := g.val.heap.size) (e := 3) (size := 1) g.val #[] 0 (Nat.le_refl _) (by decide) rfl))
  have hX3 := hide (show Ext w (g.val.alloc (.cells #[] 3)) from g.grown.alloc _)
  clear h1
  go_loopg [5, 6] L.length (fun gh u i wr => ∃ (k : Nat), i = .int .i64 k ∧ k + gh = L.length ∧ Hid (Zw wr [] u (stP ((eds L).take k))) ∧ Hid (Ext w wr))
  case atStart => exact ⟨0, by go_num, by omega, hz0, hX3⟩
  case round =>
    clear hz0 hX3
    obtain ⟨k, rfl, hk, hZ, hX⟩ := hrel
    obtain ⟨ZA, zc, hu, -, -, -⟩ := zw_form hZ.out
    obtain ⟨K, hK⟩ : ∃ K, K = stP ((eds L).take k) := ⟨_, rfl⟩
    have hKl : K.length ≤ 4001 := by rw [hK]; have := stP_len ((eds L).take k); have h8 : ((eds L).take k).length ≤ k := (by rw [List.length_take]; omega); omega
    have hKa := hide (show K.Pairwise (· < ·) by rw [hK]; exact stP_asc _)
    rw [← hK] at hZ hu
    subst hu
    by_cases hlt : k < L.length
    · obtain ⟨⟨u, q, a, d⟩, hd⟩ : ∃ p, L[k]? = some p := ⟨_, List.getElem?_eq_getElem hlt⟩
      obtain ⟨A', cap', e', -, -, hat⟩ := ew_form (hC'.out.ext hX.out)
      simp only [Value.slice.injEq] at e'
      obtain ⟨rfl, -, rfl⟩ := e'
      obtain ⟨b, o, rfl, -, hbl, c0, c1, c2⟩ := hat k _ hd
      simp only at c1 c2
      have hde : (eds L)[k]? = some (q, a, d) := by rw [List.getElem?_map, hd]; rfl
      have hnx := hide (stP_next hde)
      rw [← hK] at hnx
      replace hK := hide hK
      haveI : In b wr := ⟨hbl⟩
      have hX' := hide hX.out
      have hw := hide (with_c K hKa.out (by omega) a (.slice ZA K.length zc) wr hZ.out)
      clear hat hd hde
      by_cases hd0 : 0 < d
      · by_cases ha0 : 0 ≤ a
        · rw [if_pos ⟨hd0, ha0⟩] at hnx
          go_wp2_with (go_at_call 68; refine hw.out.mono ?_; rintro ee w5 ⟨v5, rfl, hz5, hX5⟩; have hz6 := hide hz5; have hX6 := hide (hX.out.trans hX5); clear hz5 hX5)
          go_roundg (L.length - (k + 1))
          case measure => omega
          case rel => exact ⟨k + 1, by go_num, by omega, by rw [hnx.out]; exact hz6.out, hX6⟩
        · rw [if_neg (fun c => ha0 c.2)] at hnx
          go_wp2_with fail
          go_roundg (L.length - (k + 1))
          case measure => omega
          case rel => exact ⟨k + 1, by go_num, by omega, by rw [hnx.out]; exact hZ.out, hX⟩
      · rw [if_neg (fun c => hd0 c.1)] at hnx
        go_wp2_with fail
        go_roundg (L.length - (k + 1))
        case measure => omega
        case rel => exact ⟨k + 1, by go_num, by omega, by rw [hnx.out]; exact hZ.out, hX⟩
    · have hfin := hide (show K = stP (eds L) by rw [hK, List.take_of_length_le (by simp [eds]; omega)])
      replace hK := hide hK
      go_wp2_with fail
      go_returns
      exact ⟨_, rfl, by rw [← hfin.out]; exact hZ.out, hX.out⟩
end Go.Proofs.YtljkneajdndgjaaGreat
set_option linter.unusedVariables false
set_option linter.unusedSimpArgs false
namespace Go.Proofs.YtljkneajdndgjaaGreat
open Go.RowKit
attribute [local go_sem] GW.cell GW.frozen In.eq_true In.le_true In.ne In.ne' In.ne_add In.ne_add' In.lt_add Upto.le_true Upto.le_add Upto.lt_add
theorem wrefMay_c (k s h : Int) (w : World) : Calls Tryz.prog 15 #[wV k s h] w fun e w' => e = .returned (.bool (wmay k s h)) ∧ Ext w w' := by
  have hm := hide (fun w' => hrefMay_c s h w')
  have hb := hide (Ob.new w 24 (wL k s h))
  have c0 := hb.out.cell 0 rfl
  have c1 := hb.out.cell 1 rfl
  have c2 := hb.out.cell 2 rfl
  have hl := hb.out.lt
  haveI : In w.heap.size (w.alloc (.cells #[.int .i64 k, .int .i64 s, .int .i64 h] 24)) := ⟨hl⟩
  obtain ⟨B, hB⟩ : ∃ B, B = wmay k s h := ⟨_, rfl⟩
  rw [← hB]
  by_cases k2 : k = 2
  · subst k2
    rw [show (hlen s && hlen h) = B by rw [hB]; simp [wmay]] at hm
    clear hB
    go_enter Tryz.func15, Tryz.ntmps15
    go_wp2_with (go_at_call 39; (with_reducible refine seq_gw (hm.out _) ?_); intro g)
    go_returns
    exact ⟨by first | rfl | simp, ((Ext.refl w).alloc _).trans g.grown⟩
  have k2b : (k == 2) = false := by simpa using k2
  by_cases h0 : h = 0
  case neg =>
    have hB0 : B = false := by rw [hB]; unfold wmay; rw [if_neg k2]; simp [h0]
    have h0b : (h != 0) = true := by simpa using h0
    subst hB0
    clear hB k2
    go_enter Tryz.func15, Tryz.ntmps15
    go_wp2_with fail
    go_returns
    exact ⟨by first | rfl | simp, (Ext.refl w).alloc _⟩
  have h0b : (h != 0) = false := by simpa using h0
  by_cases k1 : k = 1
  · subst k1
    by_cases s0 : s = 0
    · have hB0 : B = true := by rw [hB]; unfold wmay; simp [h0, s0]
      have s0b : (s == 0) = true := by simpa using s0
      subst hB0
      clear hB k2
      go_enter Tryz.func15, Tryz.ntmps15
      go_wp2_with fail
      go_returns
      exact ⟨by first | rfl | simp, (Ext.refl w).alloc _⟩
    · have hB0 : B = false := by rw [hB]; unfold wmay; simp [s0]
      have s0b : (s == 0) = false := by simpa using s0
      subst hB0
      clear hB k2
      go_enter Tryz.func15, Tryz.ntmps15
      go_wp2_with fail
      go_returns
      exact ⟨by first | rfl | simp, (Ext.refl w).alloc _⟩
  have k1b : (k == 1) = false := by simpa using k1
  by_cases k3 : k = 3
  case neg =>
    have k3b : (k == 3) = false := by simpa using k3
    have hB0 : B = false := by rw [hB]; unfold wmay; rw [if_neg k1, if_neg k2, if_neg k3]
    subst hB0
    clear hB k1 k2 k3
    go_enter Tryz.func15, Tryz.ntmps15
    go_wp2_with fail
    go_returns
    exact ⟨by first | rfl | simp, (Ext.refl w).alloc _⟩
  subst k3
  by_cases s1 : 0 < s
  case neg =>
    have hB0 : B = false := by rw [hB]; unfold wmay; simp; omega
    have s1b : decide (0 < s) = false := decide_eq_false s1
    subst hB0
    clear hB k1 k2
    go_enter Tryz.func15, Tryz.ntmps15
    go_wp2_with fail
    go_returns
    exact ⟨by first | rfl | simp, (Ext.refl w).alloc _⟩
  by_cases s2 : s ≤ 64
  · have hB0 : B = true := by rw [hB]; unfold wmay; simp [h0]; omega
    subst hB0
    clear hB k1 k2
    go_enter Tryz.func15, Tryz.ntmps15
    go_wp2_with fail
    go_returns
    exact ⟨by first | rfl | simp, (Ext.refl w).alloc _⟩
  · have hB0 : B = false := by rw [hB]; unfold wmay; simp; omega
    subst hB0
    clear hB k1 k2
    go_enter Tryz.func15, Tryz.ntmps15
    go_wp2_with fail
    go_returns
    exact ⟨by first | rfl | simp, (Ext.refl w).alloc _⟩
theorem wrefCheck_c (k s h : Int) (L : List Ve) (t : Int) (v : Value) (w : World) (hC : Ew w [] v L) : Calls Tryz.prog 35 #[wV k s h, v, .int .i64 t] w fun e w' => e = .returned (.int .i64 (wrE k s h (eds L) t)) ∧ Ext w w' := by
  have hk := hide (fun w' => wrefMay_c k s h w')
  have h1 := hide (fun w' (hX : Ext w w') => refEdgeMay_c L v w' (hC.ext hX))
  have h2 := hide (fun w' (hX : Ext w w') => refEdgeTable_c L v w' (hC.ext hX))
  have h3 := hide (fun w' => srefTick_c t w')
  obtain ⟨A, cap, rfl, hlc, hlm, -⟩ := ew_form hC
  clear hC
  cases hm : wmay k s h
  · have e1 : wrE k s h (eds L) t = 2 := by unfold wrE; rw [hm]; simp
    rw [e1]
    rw [hm] at hk
    clear hm e1
    go_enter Tryz.func35, Tryz.ntmps35
    go_wp2_with (first | (go_at_call 15; (with_reducible refine seq_gw (hk.out _) ?_); intro g1))
    go_returns
    exact ⟨by first | rfl | simp, ((Ext.refl w).alloc _).trans g1.grown⟩
  cases ha : mayE (eds L)
  · have e1 : wrE k s h (eds L) t = 2 := by unfold wrE; rw [ha]; simp
    rw [e1]
    rw [hm] at hk
    rw [ha] at h1
    clear hm ha e1
    go_enter Tryz.func35, Tryz.ntmps35
    go_wp2_with (first | (go_at_call 15; (with_reducible refine seq_gw (hk.out _) ?_); intro g1) | (go_at_call 61; (with_reducible refine seq_gw (h1.out _ (((Ext.refl w).alloc _).trans g1.grown)) ?_); intro g2))
    go_returns
    exact ⟨by first | rfl | simp, (((Ext.refl w).alloc _).trans g1.grown).trans g2.grown⟩
  cases hb : tabE (eds L)
  · have e1 : wrE k s h (eds L) t = 20 := by unfold wrE; rw [if_pos ⟨hm, ha⟩, hb]; rfl
    rw [e1]
    rw [hm] at hk
    rw [ha] at h1
    rw [hb] at h2
    clear hm ha hb e1
    go_enter Tryz.func35, Tryz.ntmps35
    go_wp2_with (first | (go_at_call 15; (with_reducible refine seq_gw (hk.out _) ?_); intro g1) | (go_at_call 61; (with_reducible refine seq_gw (h1.out _ (((Ext.refl w).alloc _).trans g1.grown)) ?_); intro g2) | (go_at_call 62; (with_reducible refine seq_gw (h2.out _ ((((Ext.refl w).alloc _).trans g1.grown).trans g2.grown)) ?_); intro g3))
    go_returns
    exact ⟨by first | rfl | simp, ((((Ext.refl w).alloc _).trans g1.grown).trans g2.grown).trans g3.grown⟩
  cases ht : stick t
  · have e1 : wrE k s h (eds L) t = 13 := by unfold wrE; rw [if_pos ⟨hm, ha⟩, if_pos hb, ht]; rfl
    rw [e1]
    rw [hm] at hk
    rw [ha] at h1
    rw [hb] at h2
    rw [ht] at h3
    clear hm ha hb ht e1
    go_enter Tryz.func35, Tryz.ntmps35
    go_wp2_with (first | (go_at_call 15; (with_reducible refine seq_gw (hk.out _) ?_); intro g1) | (go_at_call 61; (with_reducible refine seq_gw (h1.out _ (((Ext.refl w).alloc _).trans g1.grown)) ?_); intro g2) | (go_at_call 62; (with_reducible refine seq_gw (h2.out _ ((((Ext.refl w).alloc _).trans g1.grown).trans g2.grown)) ?_); intro g3) | (go_at_call 63; (with_reducible refine seq_gw (h3.out _) ?_); intro g4))
    go_returns
    exact ⟨by first | rfl | simp, (((((Ext.refl w).alloc _).trans g1.grown).trans g2.grown).trans g3.grown).trans g4.grown⟩
  have e1 : wrE k s h (eds L) t = 0 := by unfold wrE; rw [if_pos ⟨hm, ha⟩, if_pos hb, ht]; rfl
  rw [e1]
  rw [hm] at hk
  rw [ha] at h1
  rw [hb] at h2
  rw [ht] at h3
  clear hm ha hb ht e1
  go_enter Tryz.func35, Tryz.ntmps35
  go_wp2_with (first | (go_at_call 15; (with_reducible refine seq_gw (hk.out _) ?_); intro g1) | (go_at_call 61; (with_reducible refine seq_gw (h1.out _ (((Ext.refl w).alloc _).trans g1.grown)) ?_); intro g2) | (go_at_call 62; (with_reducible refine seq_gw (h2.out _ ((((Ext.refl w).alloc _).trans g1.grown).trans g2.grown)) ?_); intro g3) | (go_at_call 63; (with_reducible refine seq_gw (h3.out _) ?_); intro g4))
  go_returns
  exact ⟨by first | rfl | simp, (((((Ext.refl w).alloc _).trans g1.grown).trans g2.grown).trans g3.grown).trans g4.grown⟩
set_option maxHeartbeats 4000000 in
theorem wfew_c (L : List Ve) (v : Value) (w : World) (hC : Ew w [] v L) : Calls Tryz.prog 10 #[v] w fun e w' => e = .returned (.bool (fewB (eds L))) ∧ Ext w w' := by
  have hC' := hide hC
  obtain ⟨A, cap, rfl, hlc, hlm, -⟩ := ew_form hC
  unfold maxLen at hlm
  clear hC
  have hel : (eds L).length = L.length := List.length_map _
  go_enter Tryz.func10, Tryz.ntmps10
  go_wp2_with fail
  go_loopg [3] L.length (fun gh i wr => ∃ (k : Nat), i = .int .i64 k ∧ k + gh = L.length ∧ k ≤ 61 ∧ Hid (∀ e ∈ (eds L).take k, e.2.2 ≤ 10) ∧ Hid (Ext w wr))
  case atStart => exact ⟨0, by go_num, by omega, by omega, (by intro e he; simp at he), Ext.refl _⟩
  case round =>
    obtain ⟨k, rfl, hk, hk6, hA, hX⟩ := hrel
    by_cases hlt : k < L.length
    case neg =>
      have hB : Hid (fewB (eds L) = decide ((L.length : Int) ≤ 60)) := by
        show _ = _
        unfold fewB
        have h1 : ((eds L).all fun e => decide (e.2.2 ≤ 10)) = true := by
          rw [List.all_eq_true]
          intro e he
          have := hA.out e (by rw [List.take_of_length_le (by omega)]; exact he)
          simpa using this
        rw [h1, hel, Bool.and_true]
        exact decide_eq_decide.2 (by omega)
      have hltb : decide ((k : Int) < (L.length : Int)) = false := decide_eq_false (by omega)
      go_wp2_with fail
      go_returns
      exact ⟨by rw [hB.out]; first | rfl | simp, hX.out⟩
    by_cases h60 : k ≤ 60
    case neg =>
      have hB : Hid (fewB (eds L) = decide ((L.length : Int) ≤ 60)) := by
        show _ = _
        unfold fewB
        rw [decide_eq_false (by omega), decide_eq_false (show ¬ (L.length : Int) ≤ 60 by omega), Bool.false_and]
      have h60b : ¬ (k : Int) ≤ 60 := by omega
      go_wp2_with fail
      go_returns
      exact ⟨by rw [hB.out]; first | rfl | simp, hX.out⟩
    obtain ⟨⟨u, q, a, d⟩, hd⟩ : ∃ p, L[k]? = some p := ⟨_, List.getElem?_eq_getElem hlt⟩
    obtain ⟨A', cap', e', -, -, hat⟩ := ew_form (hC'.out.ext hX.out)
    simp only [Value.slice.injEq] at e'
    obtain ⟨rfl, -, rfl⟩ := e'
    obtain ⟨b, o, rfl, -, hbl, c0, c1, c2⟩ := hat k _ hd
    simp only at c2
    have hde : (eds L)[k]? = some (q, a, d) := by rw [List.getElem?_map, hd]; rfl
    have h60c : (k : Int) ≤ 60 := by omega
    haveI : In b wr := ⟨hbl⟩
    by_cases hd0 : 10 < d
    · have hB : Hid (fewB (eds L) = false) := by
        show _ = _
        unfold fewB
        rw [Bool.and_eq_false_iff]
        refine .inr ?_
        rw [List.all_eq_false]
        exact ⟨_, List.mem_of_getElem? hde, by simp; omega⟩
      clear hat hd hde c0 c1
      go_wp2_with fail
      go_returns
      exact ⟨by rw [hB.out]; first | rfl | simp, hX.out⟩
    · have hA2 : Hid (∀ e ∈ (eds L).take (k + 1), e.2.2 ≤ 10) := fun e he => by
        rw [List.take_add_one, hde] at he
        rcases List.mem_append.1 he with he | he
        · exact hA.out e he
        · obtain rfl := List.mem_singleton.1 he
          simp; omega
      clear hat hd hde c0 c1
      go_wp2_with fail
      go_roundg (L.length - (k + 1))
      case measure => omega
      case rel => exact ⟨k + 1, by go_num, by omega, by omega, hA2, hX⟩
end Go.Proofs.YtljkneajdndgjaaGreat
set_option linter.unusedVariables false
set_option linter.unusedSimpArgs false
namespace Go.Proofs.YtljkneajdndgjaaGreat
open Go.RowKit
attribute [local go_sem] GW.cell GW.frozen In.eq_true In.le_true In.ne In.ne' In.ne_add In.ne_add' In.lt_add Upto.le_true Upto.le_add Upto.lt_add
end Go.Proofs.YtljkneajdndgjaaGreat
set_option linter.unusedVariables false
set_option linter.unusedSimpArgs false
namespace Go.Proofs.YtljkneajdndgjaaGreat
open Go.RowKit
attribute [local go_sem] GW.cell GW.frozen In.eq_true In.le_true In.ne In.ne' In.ne_add In.ne_add' In.lt_add Upto.le_true Upto.le_add Upto.lt_add
end Go.Proofs.YtljkneajdndgjaaGreat
