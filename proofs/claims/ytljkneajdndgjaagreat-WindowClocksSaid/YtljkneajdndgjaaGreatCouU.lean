/-
  A helper of ours: no claim of its own. Layer 29 (counts): where something begins, and the first open window, by the document.
-/
import Derived.Test.YtljkneajdndgjaaGreatHopT
import Derived.Test.YtljkneajdndgjaaGreatEdgMy
import Derived.Test.YtljkneajdndgjaaGreatCouN
set_option linter.unusedVariables false
set_option linter.unusedSimpArgs false
namespace Go.Proofs.YtljkneajdndgjaaGreat
open Go.RowKit
attribute [local go_sem] GW.cell GW.frozen In.eq_true In.le_true In.ne In.ne' In.ne_add In.ne_add' In.lt_add Upto.le_true Upto.le_add Upto.lt_add
theorem srefTick_c (n : Int) (w : World) : Calls Tryz.prog 63 #[.int .i64 n] w fun e w' => e = .returned (.bool (stick n)) ∧ Ext w w' := by
  by_cases h0 : 0 ≤ n <;> by_cases h1 : n ≤ 1125899906842624
  all_goals
    go_enter Tryz.func63, Tryz.ntmps63
    go_wp2_with fail
    go_returns
    exact ⟨by first | rfl | (simp [stick, h0, h1]; done) | (simp [stick]; omega), Ext.refl _⟩
end Go.Proofs.YtljkneajdndgjaaGreat
set_option linter.unusedVariables false
set_option linter.unusedSimpArgs false
namespace Go.Proofs.YtljkneajdndgjaaGreat
open Go.RowKit
attribute [local go_sem] GW.cell GW.frozen In.eq_true In.le_true In.ne In.ne' In.ne_add In.ne_add' In.lt_add Upto.le_true Upto.le_add Upto.lt_add
/-- What the document finds wrong. -/
def ckE (l : List Ed) (n : Int) : Int := if mayE l = true ∧ (1 ≤ n ∧ n ≤ 64) then (if tabE l = true then 0 else 20) else 2
theorem ckE_one (l : List Ed) : ckE l 1 = csE l := by unfold ckE csE; by_cases h : mayE l = true <;> simp [h]
theorem ssE_ck (l : List Ed) (n t : Int) : ssE l n t = if ckE l n = 0 then (if stick t = true then 0 else 13) else ckE l n := by
  unfold ssE ckE csE
  by_cases h : mayE l = true <;> by_cases h2 : 1 ≤ n ∧ n ≤ 64 <;> by_cases h3 : tabE l = true <;> by_cases h4 : 0 ≤ t ∧ t ≤ 1125899906842624 <;> simp [h, h2, h3, h4, stick]
set_option maxHeartbeats 4000000 in
theorem ccheck_c (L : List Ve) (n : Int) (v : Value) (w : World) (hC : Ew w [] v L) : Calls Tryz.prog 90 #[v, .int .i64 n] w fun e w' => e = .returned (.int .i64 (ckE (eds L) n)) ∧ Ext w w' := by
  have h1 := hide (fun w' (hX : Ext w w') => refEdgeMay_c L v w' (hC.ext hX))
  have h2 := hide (fun w' (hX : Ext w w') => refEdgeTable_c L v w' (hC.ext hX))
  obtain ⟨A, cap, rfl, hlc, hlm, -⟩ := ew_form hC
  unfold maxLen at hlm
  clear hC
  cases ha : mayE (eds L)
  · have e1 : ckE (eds L) n = 2 := by unfold ckE; rw [ha]; simp
    rw [e1]
    rw [ha] at h1
    clear ha e1
    go_enter Tryz.func90, Tryz.ntmps90
    go_wp2_with (go_at_call 61; (with_reducible refine seq_gw (h1.out _ (Ext.refl _)) ?_); intro g)
    go_returns
    exact ⟨rfl, g.grown⟩
  rw [ha] at h1
  by_cases n1 : 1 ≤ n
  case neg =>
    have e1 : ckE (eds L) n = 2 := by unfold ckE; rw [if_neg (fun k => n1 k.2.1)]
    rw [e1]
    have n2 : n < 1 := by omega
    clear ha e1 n1
    go_enter Tryz.func90, Tryz.ntmps90
    go_wp2_with (go_at_call 61; (with_reducible refine seq_gw (h1.out _ (Ext.refl _)) ?_); intro g)
    go_returns
    exact ⟨rfl, g.grown⟩
  by_cases n2 : n ≤ 64
  case neg =>
    have e1 : ckE (eds L) n = 2 := by unfold ckE; rw [if_neg (fun k => n2 k.2.2)]
    rw [e1]
    clear ha e1
    go_enter Tryz.func90, Tryz.ntmps90
    go_wp2_with (go_at_call 61; (with_reducible refine seq_gw (h1.out _ (Ext.refl _)) ?_); intro g)
    go_returns
    exact ⟨rfl, g.grown⟩
  have e1 : ckE (eds L) n = if tabE (eds L) = true then 0 else 20 := by unfold ckE; rw [if_pos ⟨ha, n1, n2⟩]
  rw [e1]
  clear ha e1
  cases hb : tabE (eds L)
  all_goals
    rw [hb] at h2
    clear hb
    go_enter Tryz.func90, Tryz.ntmps90
    go_wp2_with (first | (go_at_call 61; (with_reducible refine seq_gw (h1.out _ (Ext.refl _)) ?_); intro g) | (go_at_call 62; (with_reducible refine seq_gw' (h2.out _ g.grown) ?_); intro g2))
    go_returns
    exact ⟨rfl, g2.grown⟩
/-- Where something begins, edge by edge. -/
def stP (l : List Ed) : List Int := insAll ((l.filter fun e => decide (0 < e.2.2) && decide (0 ≤ e.2.1)).map fun e => e.2.1)
theorem stP_asc (l : List Ed) : (stP l).Pairwise (· < ·) := insAll_asc _
theorem stP_next {l : List Ed} {k : Nat} {e : Ed} (h : l[k]? = some e) : stP (l.take (k + 1)) = if 0 < e.2.2 ∧ 0 ≤ e.2.1 then ins (stP (l.take k)) e.2.1 else stP (l.take k) := by
  unfold stP
  rw [List.take_add_one, h, Option.toList_some, List.filter_append]
  by_cases c : 0 < e.2.2 ∧ 0 ≤ e.2.1
  · rw [if_pos c]
    have : ([e].filter fun e : Ed => decide (0 < e.2.2) && decide (0 ≤ e.2.1)) = [e] := by simp [c.1, c.2]
    rw [this, List.map_append]
    unfold insAll
    rw [List.foldl_append]
    rfl
  · rw [if_neg c]
    have : ([e].filter fun e : Ed => decide (0 < e.2.2) && decide (0 ≤ e.2.1)) = [] := by
      rw [List.filter_eq_nil_iff]
      intro x hx
      obtain rfl := List.mem_singleton.1 hx
      simpa using fun h => Int.not_le.1 fun k => c ⟨h, k⟩
    rw [this, List.append_nil]
theorem stP_len (l : List Ed) : (stP l).length ≤ l.length := by
  have h1 := nodup_len (stP l) ((l.filter fun e => decide (0 < e.2.2) && decide (0 ≤ e.2.1)).map fun e => e.2.1) (asc_nodup (stP_asc l)) (fun x hx => by unfold stP at hx; exact (insAll_mem _ x).1 hx)
  have h2 := List.length_filter_le (fun e : Ed => decide (0 < e.2.2) && decide (0 ≤ e.2.1)) l
  rw [List.length_map] at h1
  omega
theorem stP_eq {l : List Ed} (hm : mayE l = true) : stP l = csT l := by
  refine asc_unique (R := (· < · : Int → Int → Prop)) (fun a h => by omega) (fun a b h1 h2 => by omega) _ _ (stP_asc l) (csT_asc l) fun x => ?_
  unfold stP
  rw [insAll_mem, csT_mem hm]
  constructor
  · intro h
    obtain ⟨e, he, rfl⟩ := List.mem_map.1 h
    obtain ⟨h1, h2⟩ := List.mem_filter.1 he
    refine ⟨e.1, e.2, ?_, rfl⟩
    unfold incL jmps
    refine List.mem_filter.2 ⟨List.mem_map.2 ⟨e, List.mem_filter.2 ⟨h1, by simp⟩, rfl⟩, ?_⟩
    simp at h2 ⊢
    omega
  · rintro ⟨r, j, hj, rfl⟩
    unfold incL jmps at hj
    obtain ⟨h1, h2⟩ := List.mem_filter.1 hj
    obtain ⟨e, he, rfl⟩ := List.mem_map.1 h1
    refine List.mem_map.2 ⟨e, List.mem_filter.2 ⟨(List.mem_filter.1 he).1, ?_⟩, rfl⟩
    simp at h2 ⊢
    omega
set_option maxHeartbeats 8000000 in
set_option maxRecDepth 100000 in
theorem refStarts_c (L : List Ve) (hLs : L.length ≤ 4000) (v : Value) (w : World) (hC : Ew w [] v L) : Calls Tryz.prog 91 #[v] w fun e w' => ∃ v', e = .returned (.tuple #[v', .int .i64 (csE (eds L))]) ∧ Zw w' [] v' (csL (eds L)) ∧ Ext w w' := by
  have h1 := hide (fun w' (hX : Ext w w') => ccheck_c L 1 v w' (hC.ext hX))
  rw [ckE_one] at h1
  have hC' := hide hC
  obtain ⟨A, cap, rfl, hlc, hlm, -⟩ := ew_form hC
  unfold maxLen at hlm
  clear hC
  obtain ⟨E, hE⟩ : ∃ E, E = csE (eds L) := ⟨_, rfl⟩
  rw [← hE] at h1 ⊢
  by_cases hE0 : E = 0
  case neg =>
    have e2 : csL (eds L) = [] := by unfold csL; rw [← hE, if_neg hE0]
    rw [e2]
    have hb : (E != 0) = true := by simpa using hE0
    replace hE := hide hE
    clear e2
    go_enter Tryz.func91, Tryz.ntmps91
    go_wp2_with (go_at_call 90; (with_reducible refine seq_gw (h1.out _ (Ext.refl _)) ?_); intro g)
    go_returns
    exact ⟨_, rfl, Sl.nil _ _ _, g.grown⟩
  subst hE0
  have hm : mayE (eds L) = true := by
    unfold csE at hE
    split at hE
    · assumption
    · exact absurd hE (by decide)
  have e2 : csL (eds L) = stP (eds L) := by unfold csL; rw [← hE, if_pos rfl, stP_eq hm]
  rw [e2]
  replace hE := hide hE
  clear e2 hm
  go_enter Tryz.func91, Tryz.ntmps91
  go_wp2_with (go_at_call 90; (with_reducible refine seq_gw (h1.out _ (Ext.refl _)) ?_); intro g)
  have hz0 := hide (show Zw (g.val.alloc (.cells #[] 3)) [] (.slice (some ⟨g.val.heap.size, 0, none⟩) 0 0) (stP ((eds L).take 0)) from own_zw (B := g.val.heap.size) (l := []) (World.ownsRow_lit (base := g.val.heap.size) (e := 3) (size := 1) g.val #[] 0 (Nat.le_refl _) (by decide) rfl))
  have hX3 := hide (show Ext w (g.val.alloc (.cells #[] 3)) from g.grown.alloc _)
  clear h1
  go_loopg [5, 6] L.length (fun gh u i wr => ∃ (k : Nat), i = .int .i64 k ∧ k + gh = L.length ∧ Hid (Zw wr [] u (stP ((eds L).take k))) ∧ Hid (Ext w wr))
  case atStart => exact ⟨0, by go_num, by omega, hz0, hX3⟩
  case round =>
    clear hz0 hX3
    obtain ⟨k, rfl, hk, hZ, hX⟩ := hrel
    obtain ⟨ZA, zc, hu, -, -, -⟩ := zw_form hZ.out
    obtain ⟨K, hK⟩ : ∃ K, K = stP ((eds L).take k) := ⟨_, rfl⟩
    have hKl : K.length ≤ 4001 := by rw [hK]; have := stP_len ((eds L).take k); have h8 : ((eds L).take k).length ≤ k := (by rw [List.length_take]; omega); omega
    have hKa := hide (show K.Pairwise (· < ·) by rw [hK]; exact stP_asc _)
    rw [← hK] at hZ hu
    subst hu
    by_cases hlt : k < L.length
    · obtain ⟨⟨u, q, a, d⟩, hd⟩ : ∃ p, L[k]? = some p := ⟨_, List.getElem?_eq_getElem hlt⟩
      obtain ⟨A', cap', e', -, -, hat⟩ := ew_form (hC'.out.ext hX.out)
      simp only [Value.slice.injEq] at e'
      obtain ⟨rfl, -, rfl⟩ := e'
      obtain ⟨b, o, rfl, -, hbl, c0, c1, c2⟩ := hat k _ hd
      simp only at c1 c2
      have hde : (eds L)[k]? = some (q, a, d) := by rw [List.getElem?_map, hd]; rfl
      have hnx := hide (stP_next hde)
      rw [← hK] at hnx
      replace hK := hide hK
      haveI : In b wr := ⟨hbl⟩
      have hX' := hide hX.out
      have hw := hide (with_c K hKa.out (by omega) a (.slice ZA K.length zc) wr hZ.out)
      clear hat hd hde
      by_cases hd0 : 0 < d
      · by_cases ha0 : 0 ≤ a
        · rw [if_pos ⟨hd0, ha0⟩] at hnx
          go_wp2_with (go_at_call 68; refine hw.out.mono ?_; rintro ee w5 ⟨v5, rfl, hz5, hX5⟩; have hz6 := hide hz5; have hX6 := hide (hX.out.trans hX5); clear hz5 hX5)
          go_roundg (L.length - (k + 1))
          case measure => omega
          case rel => exact ⟨k + 1, by go_num, by omega, by rw [hnx.out]; exact hz6.out, hX6⟩
        · rw [if_neg (fun c => ha0 c.2)] at hnx
          go_wp2_with fail
          go_roundg (L.length - (k + 1))
          case measure => omega
          case rel => exact ⟨k + 1, by go_num, by omega, by rw [hnx.out]; exact hZ.out, hX⟩
      · rw [if_neg (fun c => hd0 c.1)] at hnx
        go_wp2_with fail
        go_roundg (L.length - (k + 1))
        case measure => omega
        case rel => exact ⟨k + 1, by go_num, by omega, by rw [hnx.out]; exact hZ.out, hX⟩
    · have hfin := hide (show K = stP (eds L) by rw [hK, List.take_of_length_le (by simp [eds]; omega)])
      replace hK := hide hK
      go_wp2_with fail
      go_returns
      exact ⟨_, rfl, by rw [← hfin.out]; exact hZ.out, hX.out⟩
theorem lt_next {D : List Int} {k : Nat} {x : Int} (h : D[k]? = some x) (t : Int) : (D.take (k + 1)).filter (fun x => decide (x < t)) = (D.take k).filter (fun x => decide (x < t)) ++ (if x < t then [x] else []) := by
  rw [List.take_add_one, h, Option.toList_some, List.filter_append]
  congr 1
  by_cases c : x < t <;> simp [c]
set_option maxHeartbeats 8000000 in
set_option maxRecDepth 100000 in
theorem refOpen_c (L : List Ve) (hLs : L.length ≤ 4000) (n t : Int) (v : Value) (w : World) (hC : Ew w [] v L) : Calls Tryz.prog 36 #[v, .int .i64 n, .int .i64 t] w fun e w' => e = .returned (.tuple #[.int .i64 (coV (eds L) n t), .int .i64 (ssE (eds L) n t)]) ∧ Ext w w' := by
  have h1 := hide (fun w' (hX : Ext w w') => ccheck_c L n v w' (hC.ext hX))
  have h2 := hide (fun w' (hX : Ext w w') => refStarts_c L hLs v w' (hC.ext hX))
  have h3 := hide (fun w' => srefTick_c t w')
  have hst := ssE_ck (eds L) n t
  obtain ⟨A, cap, rfl, hlc, hlm, -⟩ := ew_form hC
  unfold maxLen at hlm
  clear hC
  obtain ⟨E, hE⟩ : ∃ E, E = ckE (eds L) n := ⟨_, rfl⟩
  rw [← hE] at h1 hst
  by_cases hE0 : E = 0
  case neg =>
    rw [if_neg hE0] at hst
    have e1 : coV (eds L) n t = 0 := by unfold coV; rw [hst, if_neg hE0]
    rw [e1, hst]
    have hb : (E != 0) = true := by simpa using hE0
    replace hE := hide hE
    clear e1 hst h2 h3
    go_enter Tryz.func36, Tryz.ntmps36
    go_wp2_with (go_at_call 90; (with_reducible refine seq_gw (h1.out _ (Ext.refl _)) ?_); intro g)
    go_returns
    exact ⟨rfl, g.grown⟩
  subst hE0
  rw [if_pos rfl] at hst
  cases ht : stick t
  · rw [ht, if_neg (by decide)] at hst
    have e1 : coV (eds L) n t = 0 := by unfold coV; rw [hst, if_neg (by decide)]
    rw [e1, hst]
    rw [ht] at h3
    replace hE := hide hE
    clear e1 hst h2 ht
    go_enter Tryz.func36, Tryz.ntmps36
    go_wp2_with (first | (go_at_call 90; (with_reducible refine seq_gw (h1.out _ (Ext.refl _)) ?_); intro g) | (go_at_call 63; (with_reducible refine seq_gw' (h3.out _) ?_); intro g3))
    go_returns
    exact ⟨rfl, g3.grown⟩
  rw [ht, if_pos rfl] at hst
  rw [ht] at h3
  obtain ⟨⟨n1, n2⟩, ⟨hm, htb⟩, t1, t2⟩ := ssE_ok hst
  have hcs : csE (eds L) = 0 := by unfold csE; rw [if_pos hm, if_pos htb]
  have hcl : csL (eds L) = csT (eds L) := by unfold csL; rw [if_pos hcs]
  rw [hcs, hcl] at h2
  have hDl : (csT (eds L)).length ≤ 4096 := by have := stP_len (eds L); rw [stP_eq hm] at this; rw [show (eds L).length = L.length from List.length_map _] at this; omega
  have hDa := csT_asc (eds L)
  have hov : coV (eds L) n t = if t = 1125899906842624 then 1125899906842624 else if sbN (csT (eds L)) t - (n.toNat - 1) < sbN (csT (eds L)) t then (csT (eds L)).getD (sbN (csT (eds L)) t - (n.toNat - 1)) 0 else t := by
    by_cases c : t = 1125899906842624
    · unfold coV; rw [if_pos hst, if_pos c, if_pos c]
    · rw [if_neg c]; exact coV_of hst (by omega)
  obtain ⟨D, hD⟩ : ∃ D, D = csT (eds L) := ⟨_, rfl⟩
  obtain ⟨V, hV⟩ : ∃ V, V = coV (eds L) n t := ⟨_, rfl⟩
  rw [← hD] at hDl hDa hov h2
  rw [← hV] at hov ⊢
  rw [hst]
  have hPl : D.filter (fun x => decide (x < t)) = D.take (sbN D t) := asc_take hDa t
  replace hE := hide hE
  replace hov := hide hov
  replace hPl := hide hPl
  replace hDa := hide hDa
  clear hst ht hm htb hcs hcl hD hV
  go_enter Tryz.func36, Tryz.ntmps36
  go_wp2_with (first | (go_at_call 90; (with_reducible refine seq_gw (h1.out _ (Ext.refl _)) ?_); intro g) | (go_at_call 63; (with_reducible refine seq_gw' (h3.out _) ?_); intro g3) | (go_at_call 91; refine (h2.out _ g3.grown).mono ?_; rintro ee w4 ⟨v4, rfl, hz4, hX4⟩; have hz5 := hide hz4; have hX5 := hide (g3.grown.trans hX4); obtain ⟨A4, c4, q4, -, -, -⟩ := zw_form hz4; subst q4; clear hz4 hX4))
  have hz0 := hide (show OwnZ (w4.alloc (.cells #[] 3)) w4.heap.size (.slice (some ⟨w4.heap.size, 0, none⟩) 0 0) ((D.take 0).filter (fun x => decide (x < t))) from World.ownsRow_lit (base := w4.heap.size) (e := 3) (size := 1) w4 #[] 0 (Nat.le_refl _) (by decide) rfl)
  have hX6 := hide (show Ext w4 (w4.alloc (.cells #[] 3)) from (Ext.refl _).alloc _)
  clear h1 h2 h3
  go_loopg [11, 12] D.length (fun gh u i wr => ∃ (k : Nat), i = .int .i64 k ∧ k + gh = D.length ∧ Hid (OwnZ wr w4.heap.size u ((D.take k).filter (fun x => decide (x < t)))) ∧ Hid (Ext w4 wr))
  case atStart => exact ⟨0, by go_num, by omega, hz0, hX6⟩
  case round =>
    clear hz0 hX6
    obtain ⟨k, rfl, hk, hZ, hX⟩ := hrel
    obtain ⟨P, hP⟩ : ∃ P, P = (D.take k).filter (fun x => decide (x < t)) := ⟨_, rfl⟩
    rw [← hP] at hZ
    obtain ⟨PA, pc, rfl⟩ := own_form hZ.out
    have hPk : P.length ≤ k := by rw [hP]; have h1 := List.length_filter_le (fun x => decide (x < t)) (D.take k); have h2 : (D.take k).length ≤ k := (by rw [List.length_take]; omega); omega
    by_cases hlt : k < D.length
    · obtain ⟨x, hx⟩ : ∃ x, D[k]? = some x := ⟨_, List.getElem?_eq_getElem hlt⟩
      obtain ⟨A', cp', e', -, -, hat⟩ := zw_form (Sl.ext hz5.out hX.out)
      simp only [Value.slice.injEq] at e'
      obtain ⟨rfl, -, rfl⟩ := e'
      obtain ⟨b, o, rfl, -, hbl, c0⟩ := hat k x hx
      haveI : In b wr := ⟨hbl⟩
      have hnx := hide (lt_next hx t)
      rw [← hP] at hnx
      replace hP := hide hP
      have hobP := ob_ge hZ.out
      have hzw := hX.out.size
      clear hat hx
      by_cases hxt : x < t
      · rw [if_pos hxt] at hnx
        have hO1 := hide hZ.out
        go_wp2_with (at_builtin; refine wpl_app tZ rfl (.tmp 40) (.tmp 45) rfl rfl (own_ext hO1.out ((Ext.refl wr).alloc _)) rfl (src_one Tryz.underlying78 wr _ _ rfl) (by unfold maxLen; omega) (by omega) (by simp only [World.size_alloc]; omega) ?_; intro v8 w8 ho8 hg8 hob8; have ho9 := hide ho8; have hg9 := hide hg8; obtain ⟨A8, c8, q8⟩ := own_form ho8; subst q8; clear ho8 hg8 hob8)
        have hF9 : Fr (ob (.slice PA P.length pc)) wr w8 := ((Fr.refl _ _).alloc _).grown hg9.out (fun j hj => .inl (Option.mem_toList.2 hj))
        go_roundg (D.length - (k + 1))
        case measure => omega
        case rel => exact ⟨k + 1, by go_num, by omega, (by show OwnZ _ _ _ _; rw [hnx.out]; exact own_appZ ho9.out), ext_fr hX.out hF9 (fun y hy => (hobP y hy).1)⟩
      · rw [if_neg hxt, List.append_nil] at hnx
        go_wp2_with fail
        go_roundg (D.length - (k + 1))
        case measure => omega
        case rel => exact ⟨k + 1, by go_num, by omega, (by show OwnZ _ _ _ _; rw [hnx.out]; exact hZ.out), hX⟩
    · have hPf : P = D.take (sbN D t) := by rw [hP, List.take_of_length_le (by omega)]; exact hPl.out
      have hcl := sbN_le D t
      have hPc : P.length = sbN D t := by rw [hPf, List.length_take]; omega
      obtain ⟨c, hc⟩ : ∃ c, c = sbN D t := ⟨_, rfl⟩
      have hov2 := hov.out
      rw [← hc] at hPc hPf hcl hov2
      have hXX := hide (hX5.out.trans hX.out)
      have hO1 := hide hZ.out
      replace hP := hide hP
      replace hc := hide hc
      have hget : ∀ i x, D.getD i 0 = x → i < c → ∃ g o, PA = some ⟨g, o, none⟩ ∧ g < wr.heap.size ∧ wr.cell? ⟨g, o + i, none⟩ = some (.int .i64 x) := fun i x hx hi => by
        obtain ⟨A', cp', e', -, -, hat⟩ := zw_form (own_zw hO1.out)
        simp only [Value.slice.injEq] at e'
        obtain ⟨rfl, -, rfl⟩ := e'
        obtain ⟨g, o, h1, -, h2, h3⟩ := hat i x (by rw [hPf, List.getElem?_take, if_pos hi, List.getElem?_eq_getElem (by omega)]; rw [List.getD_eq_getElem?_getD, List.getElem?_eq_getElem (by omega)] at hx; exact congrArg some hx)
        exact ⟨g, o, h1, h2, h3⟩
      have hPc' : (P.length : Int) = (c : Int) := by omega
      by_cases q1 : t = 1125899906842624
      · rw [if_pos q1] at hov2
        have hv' := hide hov2
        have hb1 : (t == 1125899906842624) = true := by simpa using q1
        clear hov2 hget hPf
        subst q1
        go_wp2_with fail
        go_returns
        exact ⟨by rw [hv'.out]; rfl, hXX.out⟩
      have hb1 : (t == 1125899906842624) = false := by simpa using q1
      rw [if_neg q1] at hov2
      by_cases q2 : c = 0
      · rw [if_neg (by omega)] at hov2
        have hv' := hide hov2
        have hb2 : ((P.length : Int) == 0) = true := by rw [beq_iff_eq]; omega
        clear hov2 hget hPf
        go_wp2_with fail
        go_returns
        exact ⟨by rw [hv'.out]; rfl, hXX.out⟩
      have hb2 : ((P.length : Int) == 0) = false := by rw [beq_eq_false_iff_ne]; omega
      by_cases q3 : n = 1
      · rw [if_neg (by omega)] at hov2
        have hv' := hide hov2
        have hb3 : (n == 1) = true := by simpa using q3
        clear hov2 hget hPf
        subst q3
        go_wp2_with fail
        go_returns
        exact ⟨by rw [hv'.out]; rfl, hXX.out⟩
      have hb3 : (n == 1) = false := by simpa using q3
      rw [if_pos (by omega)] at hov2
      by_cases q4 : n - 1 ≤ (c : Int)
      · obtain ⟨i, hi⟩ : ∃ i, i = c - (n.toNat - 1) := ⟨_, rfl⟩
        rw [← hi] at hov2
        have hi2 : (c : Int) - (n - 1) = (i : Int) := by omega
        have hi3 : (P.length : Int) - (n - 1) = (i : Int) := by omega
        have hi4 : i < c := by omega
        have hi5 : i < P.length := by omega
        have q5 : n - 1 ≤ (P.length : Int) := by omega
        obtain ⟨gb, o, rfl, hgl, k0⟩ := hget i V hov2.symm hi4
        haveI : In gb wr := ⟨hgl⟩
        clear hov2 hget hPf hi
        go_wp2_with fail
        go_returns
        exact ⟨rfl, hXX.out⟩
      · have e0 : c - (n.toNat - 1) = 0 := by omega
        rw [e0] at hov2
        have q5 : ¬ n - 1 ≤ (P.length : Int) := by omega
        obtain ⟨gb, o, rfl, hgl, k0⟩ := hget 0 V hov2.symm (by omega)
        rw [Nat.add_zero] at k0
        haveI : In gb wr := ⟨hgl⟩
        have hi5 : 0 < P.length := by omega
        clear hov2 hget hPf
        go_wp2_with fail
        go_returns
        exact ⟨rfl, hXX.out⟩
end Go.Proofs.YtljkneajdndgjaaGreat
