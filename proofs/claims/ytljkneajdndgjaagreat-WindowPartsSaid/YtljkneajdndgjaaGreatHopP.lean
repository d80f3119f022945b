/-
  A helper of ours: no claim of its own. Layer 28 (hop): the windows and their rows, by the document; and the walk of the law HopParts.
-/
import Derived.Test.YtljkneajdndgjaaGreatHopT
import Derived.Test.YtljkneajdndgjaaGreatHopF
import Derived.Test.YtljkneajdndgjaaGreatSnaH
set_option linter.unusedVariables false
set_option linter.unusedSimpArgs false
namespace Go.Proofs.YtljkneajdndgjaaGreat
open Go.RowKit
attribute [local go_sem] GW.cell GW.frozen In.eq_true In.le_true In.ne In.ne' In.ne_add In.ne_add' In.lt_add Upto.le_true Upto.le_add Upto.lt_add
set_option maxHeartbeats 8000000 in
set_option maxRecDepth 100000 in
theorem refBelongs_c (J : List Jp) (hE : spE J = 0) (hn : (lifeL J).length ≤ 4096) (a b : Int) (v : Value) (w : World) (hJ : Jw w [] v J) : Calls Tryz.prog 70 #[v, .agg #[.int .i64 a, .int .i64 b]] w fun e w' => e = .returned (.int .i64 (belN (lifeL J) a b)) ∧ Ext w w' := by
  have hsp := hide (fun w' (hX : Ext w w') => refSpans_c J v w' (Sl.ext hJ hX))
  rw [hE, show spR J = lifeL J by unfold spR; rw [if_pos hE]] at hsp
  obtain ⟨A, cap, rfl, -, -, -⟩ := jw_form hJ
  clear hJ
  have hb := hide (Ob.new w 49 [.int .i64 a, .int .i64 b])
  obtain ⟨S, hS⟩ : ∃ S, S = lifeL J := ⟨_, rfl⟩
  rw [← hS] at hsp hn ⊢
  replace hS := hide hS
  clear hE
  go_enter Tryz.func70, Tryz.ntmps70
  go_wp2_with (go_at_call 65; refine (hsp.out _ ((Ext.refl w).alloc _)).mono ?_; rintro ee w1 ⟨v1, rfl, ho1, hY⟩; have hX1 := hide (((Ext.refl w).alloc (.cells #[.int .i64 a, .int .i64 b] 49)).trans hY); have ho2 := hide ho1; have hb1 := hide (hb.out.ext hY); obtain ⟨SA, scap, q1⟩ := own_form ho1; subst q1; clear ho1 hY)
  go_loopg [7, 8] S.length (fun gh u i wr => ∃ (k : Nat), i = .int .i64 k ∧ k + gh = S.length ∧ u = .int .i64 (belN (S.take k) a b) ∧ Hid (Ext w1 wr))
  case atStart => exact ⟨0, by go_num, by omega, rfl, Ext.refl _⟩
  case round =>
    obtain ⟨k, rfl, hk, rfl, hX⟩ := hrel
    have hle := belN_le (S.take k) a b
    have htk : (S.take k).length ≤ k := by rw [List.length_take]; omega
    obtain ⟨z, hz⟩ : ∃ z, z = belN (S.take k) a b := ⟨_, rfl⟩
    rw [← hz] at hle ⊢
    have hbw := hb1.out.ext hX.out
    have hbl := hbw.lt
    haveI : In w.heap.size wr := ⟨hbl⟩
    have n0 := hbw.cell 0 rfl
    have n1 := hbw.cell 1 rfl
    by_cases hlt : k < S.length
    · obtain ⟨⟨x, y⟩, hd⟩ : ∃ p, S[k]? = some p := ⟨_, List.getElem?_eq_getElem hlt⟩
      obtain ⟨A', cap', e', -, -, hat⟩ := jw_form (Sl.own (S := []) (own_ext ho2.out hX.out) (by simp))
      simp only [Value.slice.injEq] at e'
      obtain ⟨rfl, -, rfl⟩ := e'
      obtain ⟨bb, o, rfl, -, hbbl, d0, d1⟩ := hat k _ hd
      simp only at d0 d1
      haveI : In bb wr := ⟨hbbl⟩
      have hnx := hide (belN_next hd a b)
      rw [← hz] at hnx
      replace hz := hide hz
      clear hat hd
      by_cases h1 : x < b
      · by_cases h2 : a < y
        · rw [if_pos ⟨h1, h2⟩] at hnx
          go_wp2_with fail
          refine wp_region_gw (by kernel_rfl) (by kernel_rfl) ?_
          repeat (go_big_quiet_step (fail))
          refine wpQuiet_nil ?_
          intro g8
          go_wp2_with fail
          go_roundg (S.length - (k + 1))
          case measure => omega
          case rel => exact ⟨k + 1, by go_num, by omega, by rw [hnx.out], hX.out.trans g8.grown⟩
        · rw [if_neg (fun c => h2 c.2), Int.add_zero] at hnx
          go_wp2_with fail
          refine wp_region_gw (by kernel_rfl) (by kernel_rfl) ?_
          repeat (go_big_quiet_step (fail))
          refine wpQuiet_nil ?_
          intro g8
          go_wp2_with fail
          go_roundg (S.length - (k + 1))
          case measure => omega
          case rel => exact ⟨k + 1, by go_num, by omega, by rw [hnx.out], hX.out.trans g8.grown⟩
      · rw [if_neg (fun c => h1 c.1), Int.add_zero] at hnx
        have h1b : decide (x < b) = false := decide_eq_false h1
        go_wp2_with fail
        refine wp_region_gw (by kernel_rfl) (by kernel_rfl) ?_
        repeat (go_big_quiet_step (fail))
        refine wpQuiet_nil ?_
        intro g8
        go_wp2_with fail
        go_roundg (S.length - (k + 1))
        case measure => omega
        case rel => exact ⟨k + 1, by go_num, by omega, by rw [hnx.out], hX.out.trans g8.grown⟩
    · have hfin := hide (show z = belN S a b by rw [hz, List.take_of_length_le (by omega)])
      replace hz := hide hz
      go_wp2_with fail
      go_returns
      exact ⟨by rw [hfin.out]; rfl, hX1.out.trans hX.out⟩
theorem hsE_life {s h lo hi f r : Int} (hs : hlen s = true) (hh : hlen h = true) (hf : htick f = true) (hr : htick r = true) (h1 : -1 ≤ lo ∧ lo < hi ∧ hi ≤ 1125899906842624) : hsE s h lo hi f r = if 1024 < (hW s h lo hi f r).length then 7 else 0 := by
  unfold hsE
  rw [if_neg (fun k => k ⟨hs, hh⟩), if_neg (fun k => k ⟨hf, hr⟩), if_neg (by omega)]
/-- The rows of a window, row by row. -/
def cbR (l : List Ed) (R : List (List Vl)) (a b : Int) : List Cp := (R.filter fun q => decide (0 < belN (lifeL (jmps l q)) a b)).map fun q => (q, belN (lifeL (jmps l q)) a b)
theorem cbR_next {R : List (List Vl)} {k : Nat} {q : List Vl} (h : R[k]? = some q) (l : List Ed) (a b : Int) : cbR l (R.take (k + 1)) a b = cbR l (R.take k) a b ++ (if 0 < belN (lifeL (jmps l q)) a b then [(q, belN (lifeL (jmps l q)) a b)] else []) := by
  unfold cbR
  rw [List.take_add_one, h, Option.toList_some, List.filter_append, List.map_append]
  congr 1
  by_cases c : 0 < belN (lifeL (jmps l q)) a b <;> simp [c]
theorem insAll_snoc (l : List Int) (x : Int) : insAll (l ++ [x]) = ins (insAll l) x := by simp [insAll]
set_option maxHeartbeats 16000000 in
set_option maxRecDepth 100000 in
theorem refHpParts_c (L : List Ve) (hfw : fewB (eds L) = true) (s hp f r : Int) (v : Value) (w : World) (hC : Ew w [] v L) : Calls Tryz.prog 26 #[v, .int .i64 s, .int .i64 hp, .int .i64 f, .int .i64 r] w fun e w' => ∃ v' P, e = .returned (.tuple #[v', .int .i64 (hpE (eds L) s hp f r)]) ∧ pts P = hpL (eds L) s hp f r ∧ Pw w' [] v' P ∧ Ext w w' := by
  have h1 := hide (fun w' => hrefMay_c s hp w')
  have h2 := hide (fun w' (hX : Ext w w') => refEdgeMay_c L v w' (hC.ext hX))
  have h3 := hide (fun w' (hX : Ext w w') => refEdgeTable_c L v w' (hC.ext hX))
  have h4 := hide (fun w' => hrefTick_c f w')
  have h5 := hide (fun w' => hrefTick_c r w')
  have hC' := hide hC
  obtain ⟨hf6, hf10⟩ := fewB_iff.1 hfw
  have hL6 : L.length ≤ 60 := by rwa [show (eds L).length = L.length from List.length_map _] at hf6
  obtain ⟨A, cap, rfl, hlc, hlm, -⟩ := ew_form hC
  unfold maxLen at hlm
  clear hC
  cases hab : (hlen s && hlen hp)
  · have e1 : hpE (eds L) s hp f r = 2 := by unfold hpE; rw [if_neg (fun k => by rw [k.1, k.2.1] at hab; cases hab)]
    have e2 : hpL (eds L) s hp f r = [] := by unfold hpL; rw [e1]; rfl
    rw [e1, e2]
    rw [hab] at h1
    clear hab e1 e2 h2 h3 h4 h5
    go_enter Tryz.func26, Tryz.ntmps26
    go_wp2_with (first | (go_at_call 39; (with_reducible refine seq_gw (h1.out _) ?_); intro g1))
    go_returns
    exact ⟨_, [], rfl, rfl, ⟨Sl.nil _ _ _, by simp⟩, g1.grown⟩
  rw [hab] at h1
  obtain ⟨hs, hh⟩ : hlen s = true ∧ hlen hp = true := by simpa using hab
  clear hab
  cases hm : mayE (eds L)
  · have e1 : hpE (eds L) s hp f r = 2 := by unfold hpE; rw [if_neg (fun k => by rw [hm] at k; cases k.2.2)]
    have e2 : hpL (eds L) s hp f r = [] := by unfold hpL; rw [e1]; rfl
    rw [e1, e2]
    rw [hm] at h2
    clear hm e1 e2 hs hh h3 h4 h5
    go_enter Tryz.func26, Tryz.ntmps26
    go_wp2_with (first | (go_at_call 39; (with_reducible refine seq_gw (h1.out _) ?_); intro g1) | (go_at_call 61; (with_reducible refine seq_gw (h2.out _ g1.grown) ?_); intro g2))
    go_returns
    exact ⟨_, [], rfl, rfl, ⟨Sl.nil _ _ _, by simp⟩, g1.grown.trans g2.grown⟩
  rw [hm] at h2
  cases ht : tabE (eds L)
  · have e1 : hpE (eds L) s hp f r = 20 := by unfold hpE; rw [if_pos ⟨hs, hh, hm⟩, if_neg (by rw [ht]; decide)]
    have e2 : hpL (eds L) s hp f r = [] := by unfold hpL; rw [e1]; rfl
    rw [e1, e2]
    rw [ht] at h3
    clear hm ht e1 e2 hs hh h4 h5
    go_enter Tryz.func26, Tryz.ntmps26
    go_wp2_with (first | (go_at_call 39; (with_reducible refine seq_gw (h1.out _) ?_); intro g1) | (go_at_call 61; (with_reducible refine seq_gw (h2.out _ g1.grown) ?_); intro g2) | (go_at_call 62; (with_reducible refine seq_gw (h3.out _ (g1.grown.trans g2.grown)) ?_); intro g3))
    go_returns
    exact ⟨_, [], rfl, rfl, ⟨Sl.nil _ _ _, by simp⟩, (g1.grown.trans g2.grown).trans g3.grown⟩
  rw [ht] at h3
  cases hf : htick f
  · have e1 : hpE (eds L) s hp f r = 13 := by unfold hpE; rw [if_pos ⟨hs, hh, hm⟩, if_pos ht, if_neg (fun k => by rw [hf] at k; cases k.1)]
    have e2 : hpL (eds L) s hp f r = [] := by unfold hpL; rw [e1]; rfl
    rw [e1, e2]
    rw [hf] at h4
    clear hm ht hf e1 e2 hs hh h5
    go_enter Tryz.func26, Tryz.ntmps26
    go_wp2_with (first | (go_at_call 39; (with_reducible refine seq_gw (h1.out _) ?_); intro g1) | (go_at_call 61; (with_reducible refine seq_gw (h2.out _ g1.grown) ?_); intro g2) | (go_at_call 62; (with_reducible refine seq_gw (h3.out _ (g1.grown.trans g2.grown)) ?_); intro g3) | (go_at_call 63; (with_reducible refine seq_gw (h4.out _) ?_); intro g4))
    go_returns
    exact ⟨_, [], rfl, rfl, ⟨Sl.nil _ _ _, by simp⟩, ((g1.grown.trans g2.grown).trans g3.grown).trans g4.grown⟩
  rw [hf] at h4
  cases hr : htick r
  · have e1 : hpE (eds L) s hp f r = 13 := by unfold hpE; rw [if_pos ⟨hs, hh, hm⟩, if_pos ht, if_neg (fun k => by rw [hr] at k; cases k.2)]
    have e2 : hpL (eds L) s hp f r = [] := by unfold hpL; rw [e1]; rfl
    rw [e1, e2]
    rw [hr] at h5
    clear hm ht hf hr e1 e2 hs hh
    go_enter Tryz.func26, Tryz.ntmps26
    go_wp2_with (first | (go_at_call 39; (with_reducible refine seq_gw (h1.out _) ?_); intro g1) | (go_at_call 61; (with_reducible refine seq_gw (h2.out _ g1.grown) ?_); intro g2) | (go_at_call 62; (with_reducible refine seq_gw (h3.out _ (g1.grown.trans g2.grown)) ?_); intro g3) | (go_at_call 63; first | ((with_reducible refine seq_gw (h4.out g3.val) ?_); intro g4) | ((with_reducible refine seq_gw (h5.out g4.val) ?_); intro g5)))
    go_returns
    exact ⟨_, [], rfl, rfl, ⟨Sl.nil _ _ _, by simp⟩, (((g1.grown.trans g2.grown).trans g3.grown).trans g4.grown).trans g5.grown⟩
  rw [hr] at h5
  have hs1 := (hlen_iff.1 hs).1
  have hh1 := (hlen_iff.1 hh).1
  have hrF := (htick_iff.1 hr).2
  obtain ⟨K, hK⟩ : ∃ K, K = hkeys s hp f r (grp (eds L)) := ⟨_, rfl⟩
  have hKa : Hid (K.Pairwise (· < ·)) := by rw [hK]; exact hkeys_asc _ _ _ _ _
  obtain ⟨EE, hEE0⟩ : ∃ EE, EE = hpE (eds L) s hp f r := ⟨_, rfl⟩
  obtain ⟨RR, hRR0⟩ : ∃ RR, RR = hpL (eds L) s hp f r := ⟨_, rfl⟩
  have hEE : Hid (EE = if 1024 < K.length then 7 else 0) := by rw [hEE0]; unfold hpE hcE; rw [if_pos ⟨hs, hh, hm⟩, if_pos ht, if_pos ⟨hf, hr⟩, ← hK]; rfl
  have hRR : Hid (RR = if EE = 0 then K.map (fun t => ((t, hend s t), cbR (eds L) (rowsL (eds L)) t (hend s t))) else []) := by
    show _ = _
    rw [hRR0, hEE0]
    unfold hpL hpT
    rw [← hK]
    split
    · refine List.map_congr_left fun t h => ?_
      rw [hK] at h
      rw [hrows_doc hm ht hs1 hh1 hrF h]
      rfl
    · rfl
  rw [← hEE0, ← hRR0]
  clear hEE0 hRR0
  have hall : Hid (insAll (winR (eds L) s hp f r (rowsL (eds L))) = K) := by rw [hK]; exact winR_all hm ht hs1 hh1 hrF
  have hKm : Hid (∀ x q p, p ∈ lifeL (jmps (eds L) q) → x ∈ hW s hp p.1 p.2 f r → x ∈ K) := fun x q p hp0 hx => by rw [hK]; exact (winR_mem hm ht hs1 hh1 hrF x).2 ⟨q, p, hp0, hx⟩
  have hK7 : Hid (∀ A : List Int, (∀ x ∈ A, x ∈ K) → 1024 < (insAll A).length → EE = 7 ∧ RR = []) := fun A h1 h2 => by
    have h3 := keys_len hKa.out h1
    have h4 : EE = 7 := by rw [hEE.out, if_pos (by omega)]
    exact ⟨h4, by rw [hRR.out, h4]; rfl⟩
  have hKb : Hid (∀ x ∈ K, f ≤ x ∧ x < r) := fun x hx => by
    rw [hK] at hx
    obtain ⟨g, hg, hx1⟩ := hkeys_mem.1 hx
    obtain ⟨-, b, c, -⟩ := (ofL_val hs1 hh1 hrF ((mayE_iff.1 hm).2.2 g hg)).1 hx1
    exact ⟨b, c⟩
  have hr1 := hide (fun w' (hX : Ext w w') => refRows_c L _ w' (hC'.out.ext hX) (mayE_rise hm).1 (by omega))
  have hju := hide (fun r x w' (hX : Ext w w') (hr : Rw w [] x r) => refJumps_c L r _ x w' (hC'.out.ext hX) (Sl.ext hr hX) (by omega))
  have hfin0 := hide (fun q => row_fine hm ht q)
  have hspf := hide (fun q => spR_few hm ht hf6 hf10 q)
  have hst := hide (fun lo hi (h : -1 ≤ lo ∧ lo < hi ∧ hi ≤ 1125899906842624) w' => hrefStarts_c s hp lo hi f r ⟨by omega, by omega⟩ ⟨by omega, by omega⟩ w')
  have hse := hide (fun lo hi (h : -1 ≤ lo ∧ lo < hi ∧ hi ≤ 1125899906842624) => hsE_life hs hh hf hr h)
  have hWa := hide (fun lo hi => (hT_asc hh1 : (hW s hp lo hi f r).Pairwise (· < ·)))
  have hrl : (rowsL (eds L)).length ≤ 60 := by have := rowsL_len (eds L) (mayE_rise hm).1; rw [show (eds L).length = L.length from List.length_map _] at this; omega
  have hf0 := (htick_iff.1 hf).1
  have hsU := (hlen_iff.1 hs).2
  replace hK := hide hK
  clear hs hh hf hr hm ht hf6 hf10 hfw
  go_enter Tryz.func26, Tryz.ntmps26
  go_wp2_with (first | (go_at_call 39; (with_reducible refine seq_gw (h1.out _) ?_); intro g1) | (go_at_call 61; (with_reducible refine seq_gw (h2.out _ g1.grown) ?_); intro g2) | (go_at_call 62; (with_reducible refine seq_gw (h3.out _ (g1.grown.trans g2.grown)) ?_); intro g3) | (go_at_call 63; first | ((with_reducible refine seq_gw (h4.out g3.val) ?_); intro g4) | ((with_reducible refine seq_gw (h5.out g4.val) ?_); intro g5)) | (go_at_call 64; refine (hr1.out _ (((((g1.grown.trans g2.grown).trans g3.grown).trans g4.grown).trans g5.grown).trans ((Ext.refl _).alloc _))).mono ?_; rintro ee w5 ⟨v5, M, rfl, hM, ho5, hin, hY⟩; have hM' := hide hM; have ho6 := hide ho5; have hin6 := hide hin; have hX6 := hide ((((((g1.grown.trans g2.grown).trans g3.grown).trans g4.grown).trans g5.grown).trans ((Ext.refl _).alloc (.cells #[] 3))).trans hY); have hz6 := hide (Sl.ext (own_zw (B := g5.val.heap.size) (l := []) (World.ownsRow_lit (base := g5.val.heap.size) (e := 3) (size := 1) g5.val #[] 0 (Nat.le_refl _) (by decide) rfl)) hY); obtain ⟨RA, rc1, q5⟩ := own_form ho5; subst q5; clear hM hin ho5 hY))
  have hMl : M.length ≤ 60 := by have h1 := congrArg List.length hM'.out; rw [List.length_map] at h1; omega
  have hMe : M.length = (rowsL (eds L)).length := by have h1 := congrArg List.length hM'.out; rwa [List.length_map] at h1
  replace hMe := hide hMe
  clear h1 h2 h3 h4 h5
  go_loopg [12, 14] M.length (fun gh u i wr => ∃ (k : Nat) (A : List Int), i = .int .i64 k ∧ k + gh = M.length ∧ Hid (A = winR (eds L) s hp f r ((rowsL (eds L)).take k)) ∧ Hid (Zw wr [] u (insAll A)) ∧ (insAll A).length ≤ 1024 ∧ Hid (∀ x ∈ A, x ∈ K) ∧ Hid (Ext w5 wr))
  case atStart => exact ⟨0, [], by go_num, by omega, rfl, hz6.out, by simp [insAll], (by intro x hx; cases hx), Ext.refl _⟩
  case round =>
    clear hz6
    obtain ⟨k, A1, rfl, hk, hA, hZ, hAl, hAK, hX⟩ := hrel
    obtain ⟨ZA, zc, hu, -, -, -⟩ := zw_form hZ.out
    obtain ⟨D1, hD1⟩ : ∃ D1, D1 = insAll A1 := ⟨_, rfl⟩
    rw [← hD1] at hZ hu hAl
    subst hu
    replace hD1 := hide hD1
    by_cases hlt : k < M.length
    · obtain ⟨⟨xv, rw⟩, hd⟩ : ∃ p, M[k]? = some p := ⟨_, List.getElem?_eq_getElem hlt⟩
      have hwr := hX6.out.trans hX.out
      obtain ⟨A', cap', e', -, -, hat⟩ := rs_form (Sl.own (S := []) (own_ext ho6.out hX.out) (by simp))
      simp only [Value.slice.injEq] at e'
      obtain ⟨rfl, -, rfl⟩ := e'
      obtain ⟨b2, o2, rfl, -, hb2l, c0⟩ := hat k _ hd
      simp only at c0
      have hgk : (rowsL (eds L))[k]? = some rw := by rw [← hM'.out, List.getElem?_map, hd]; rfl
      have hnx := hide (winR_next hgk (eds L) s hp f r)
      rw [← hA.out] at hnx
      have hxq := hin6.out _ (List.mem_of_getElem? hd)
      simp only at hxq
      have hxr : Rw w [] xv rw := by
        obtain ⟨p, hp, e1, e2⟩ := hxq
        rw [← e1, ← e2]
        exact hC'.out.2 p hp
      have hje := hide (hju.out rw xv wr hwr hxr)
      obtain ⟨J, hJ⟩ : ∃ J, J = jmps (eds L) rw := ⟨_, rfl⟩
      have hsf := hspf.out rw
      have hrf := hfin0.out rw
      have hKm1 := hide (fun x p => hKm.out x rw p)
      rw [← hJ] at hje hsf hrf hnx hKm1
      obtain ⟨s1, s2, s3⟩ := hsf
      have hspn := hide (fun v' w' (h : Jw w' [] v' J) => refSpans_c J v' w' h)
      rw [s1, s2] at hspn
      have hrg := hide (fun p (hp0 : p ∈ lifeL J) => life_rng hrf.1 hrf.2 p hp0)
      obtain ⟨S, hS⟩ : ∃ S, S = lifeL J := ⟨_, rfl⟩
      rw [← hS] at hspn hrg s3 hnx hKm1
      replace hJ := hide hJ
      replace hS := hide hS
      obtain ⟨XA, xcap, rfl⟩ := rw_val hxr
      haveI : In b2 wr := ⟨hb2l⟩
      clear hat hd hgk hxr hxq hwr s1 s2 hrf
      go_wp2_with (first | (go_at_call 66; refine hje.out.mono ?_; rintro ee w7 ⟨v7, rfl, ho7, hX7⟩; have hX8 := hide hX7; have hs8 := hide (fun w' (hx : Ext w7 w') => hspn.out v7 w' (Sl.ext (own_jw (S := []) ho7 (by simp)) hx)); obtain ⟨JA, jcap, q7⟩ := own_form ho7; subst q7; clear ho7 hX7) | (go_at_call 65; refine (hs8.out _ (Ext.refl _)).mono ?_; rintro ee w9 ⟨v9, rfl, ho9, hY⟩; have hX9 := hide (hX8.out.trans hY); have ho10 := hide ho9; obtain ⟨SA, scap, q9⟩ := own_form ho9; subst q9; clear ho9 hY))
      have hX10 := hide (hX.out.trans hX9.out)
      have hZ9 := hide (Sl.ext hZ.out hX9.out)
      clear hX8 hX9 hZ hX hs8
      go_loopg [12, 17] S.length (fun gh u i wr => ∃ (q : Nat) (B : List Int), i = .int .i64 q ∧ q + gh = S.length ∧ Hid (B = A1 ++ winS s hp f r (S.take q)) ∧ Hid (Zw wr [] u (insAll B)) ∧ (insAll B).length ≤ 1024 ∧ Hid (∀ x ∈ B, x ∈ K) ∧ Hid (Ext w9 wr))
      case atStart => exact ⟨0, A1, by go_num, by omega, (by show _ = _; simp [winS]), (by rw [← hD1.out]; exact hZ9.out), by rw [← hD1.out]; exact hAl, hAK, Ext.refl _⟩
      case round =>
        clear hZ9
        obtain ⟨q, B, rfl, hq, hB, hZ2, hBl, hBK, hV⟩ := hrel
        obtain ⟨ZB, zc2, hu, -, -, -⟩ := zw_form hZ2.out
        obtain ⟨D2, hD2⟩ : ∃ D2, D2 = insAll B := ⟨_, rfl⟩
        rw [← hD2] at hZ2 hu hBl
        subst hu
        replace hD2 := hide hD2
        by_cases hql : q < S.length
        · obtain ⟨⟨lo, hi⟩, hd⟩ : ∃ p, S[q]? = some p := ⟨_, List.getElem?_eq_getElem hql⟩
          obtain ⟨A', cap', e', -, -, hat⟩ := jw_form (Sl.own (S := []) (own_ext ho10.out hV.out) (by simp))
          simp only [Value.slice.injEq] at e'
          obtain ⟨rfl, -, rfl⟩ := e'
          obtain ⟨b3, o3, rfl, -, hb3l, d0, d1⟩ := hat q _ hd
          simp only at d0 d1
          have hmem := List.mem_of_getElem? hd
          have hrg1 := hrg.out _ hmem
          simp only at hrg1
          have hnx2 := hide (winS_next hd s hp f r)
          simp only at hnx2
          have hst1 := hide (hst.out lo hi hrg1)
          have hse1 := hse.out lo hi hrg1
          have hWa1 : Hid ((hW s hp lo hi f r).Pairwise (· < ·)) := hWa.out lo hi
          have hKm2 : Hid (∀ x ∈ hW s hp lo hi f r, x ∈ K) := fun x hx => hKm1.out x (lo, hi) hmem hx
          have hsl : hsL s hp lo hi f r = if hsE s hp lo hi f r = 0 then hW s hp lo hi f r else [] := rfl
          haveI : In b3 wr := ⟨hb3l⟩
          clear hat hd hmem
          obtain ⟨U, hU⟩ : ∃ U, U = hW s hp lo hi f r := ⟨_, rfl⟩
          rw [← hU] at hnx2 hse1 hWa1 hKm2 hsl
          by_cases hU7 : 1024 < U.length
          · rw [if_pos hU7] at hse1
            rw [hse1] at hst1
            have h7 : EE = 7 ∧ RR = [] := hK7.out U hKm2.out (by
              have h1 := nodup_len U (insAll U) (asc_nodup hWa1.out) (fun x hx => (insAll_mem U x).2 hx)
              omega)
            have h7' := hide h7
            replace hU := hide hU
            clear h7 hsl hse1
            go_wp2_with (go_at_call 67; refine (hst1.out _).mono ?_; rintro ee w11 ⟨v11, rfl, ho11, hY⟩; have hX11 := hide hY; obtain ⟨TA, tc, q11⟩ := own_form ho11; subst q11; clear ho11 hY)
            go_returns
            rw [h7'.out.1, h7'.out.2]
            exact ⟨_, [], rfl, rfl, ⟨Sl.nil _ _ _, by simp⟩, hX6.out.trans (hX10.out.trans (hV.out.trans hX11.out))⟩
          rw [if_neg hU7] at hse1
          rw [hse1, if_pos rfl] at hsl
          rw [hse1, hsl] at hst1
          replace hU := hide hU
          clear hsl hse1
          go_wp2_with (go_at_call 67; refine (hst1.out _).mono ?_; rintro ee w11 ⟨v11, rfl, ho11, hY⟩; have hX11 := hide hY; have ho12 := hide ho11; obtain ⟨TA, tc, q11⟩ := own_form ho11; subst q11; clear ho11 hY)
          have hX12 := hide (hV.out.trans hX11.out)
          have hZ3 := hide (Sl.ext hZ2.out hX11.out)
          clear hX11 hV hZ2
          go_loopg [12, 20] U.length (fun gh u i wr => ∃ (j : Nat) (D : List Int), i = .int .i64 j ∧ j + gh = U.length ∧ Hid (D = insAll (B ++ U.take j)) ∧ Hid (Zw wr [] u D) ∧ D.length ≤ 1024 + j ∧ Hid (Ext w11 wr))
          case atStart => exact ⟨0, D2, by go_num, by omega, (by show _ = _; rw [hD2.out]; simp), hZ3.out, by omega, Ext.refl _⟩
          case round =>
            clear hZ3
            obtain ⟨j, D, rfl, hj, hD, hZ4, hDl, hT⟩ := hrel
            obtain ⟨ZD, zc4, rfl, -, -, -⟩ := zw_form hZ4.out
            by_cases hjl : j < U.length
            · obtain ⟨t, ht⟩ : ∃ t, U[j]? = some t := ⟨_, List.getElem?_eq_getElem hjl⟩
              obtain ⟨A', cp', e', -, -, hat2⟩ := zw_form (own_zw (own_ext ho12.out hT.out))
              simp only [Value.slice.injEq] at e'
              obtain ⟨rfl, -, rfl⟩ := e'
              obtain ⟨b4, o4, rfl, -, hb4l, e0⟩ := hat2 j t ht
              haveI : In b4 wr := ⟨hb4l⟩
              have hDa : D.Pairwise (· < ·) := by rw [hD.out]; exact insAll_asc _
              have hw := hide (with_c D hDa (by omega) t (.slice ZD D.length zc4) wr hZ4.out)
              have hDn := hide (show ins D t = insAll (B ++ U.take (j + 1)) by rw [hD.out, ← insAll_snoc, List.append_assoc, List.take_add_one, ht]; rfl)
              have hil := ins_length D t hDa
              clear hat2 ht hDa
              go_wp2_with (go_at_call 68; refine hw.out.mono ?_; rintro ee w13 ⟨v13, rfl, hz13, hX13⟩; have hz14 := hide hz13; have hX14 := hide (hT.out.trans hX13); obtain ⟨ZE, zc5, q13, -, -, -⟩ := zw_form hz13; subst q13; clear hz13 hX13)
              go_roundg (U.length - (j + 1))
              case measure => omega
              case rel => exact ⟨j + 1, ins D t, by go_num, by omega, hDn, hz14.out, by omega, hX14⟩
            · have hDe := hide (show D = insAll (B ++ U) by rw [hD.out, List.take_of_length_le (by omega)])
              have hsub : Hid (∀ x ∈ B ++ U, x ∈ K) := fun x hx => by
                rcases List.mem_append.1 hx with hx | hx
                · exact hBK.out x hx
                · exact hKm2.out x hx
              have hX15 := hide (hX12.out.trans hT.out)
              by_cases hfull : 1024 < D.length
              · have h7 := hide (hK7.out (B ++ U) hsub.out (by rw [← hDe.out]; exact hfull))
                have hfi : (1024 : Int) < (D.length : Int) := by omega
                go_wp2_with fail
                go_returns
                rw [h7.out.1, h7.out.2]
                exact ⟨_, [], rfl, rfl, ⟨Sl.nil _ _ _, by simp⟩, hX6.out.trans (hX10.out.trans hX15.out)⟩
              · have hfi : ¬ (1024 : Int) < (D.length : Int) := by omega
                go_wp2_with fail
                go_roundg (S.length - (q + 1))
                case measure => omega
                case rel => exact ⟨q + 1, B ++ U, by go_num, by omega, (by show _ = _; rw [hB.out, hnx2.out, List.append_assoc]), (by rw [← hDe.out]; exact hZ4.out), by rw [← hDe.out]; omega, hsub, hX15⟩
        · have hBe := hide (show B = winR (eds L) s hp f r ((rowsL (eds L)).take (k + 1)) by rw [hB.out, List.take_of_length_le (by omega)]; exact hnx.out.symm)
          go_wp2_with fail
          go_roundg (M.length - (k + 1))
          case measure => omega
          case rel => exact ⟨k + 1, B, by go_num, by omega, hBe, (by rw [← hD2.out]; exact hZ2.out), by rw [← hD2.out]; exact hBl, hBK, hX10.out.trans hV.out⟩
    · have hDK : D1 = K := by rw [hD1.out, hA.out, List.take_of_length_le (by rw [← hMe.out]; omega)]; exact hall.out
      subst hDK
      have hKl := hAl
      have e7 : EE = 0 := by rw [hEE.out, if_neg (by omega)]
      have e8 : Hid (RR = D1.map (fun t => ((t, hend s t), cbR (eds L) (rowsL (eds L)) t (hend s t)))) := by show _ = _; rw [hRR.out, if_pos e7]
      replace e7 := hide e7
      have hX7 := hide (hX6.out.trans hX.out)
      have hZ7 := hZ
      have ho7 := hide (own_ext ho6.out hX.out)
      clear hD1 hEE hRR
      generalize D1 = K at *
      go_wp2_with fail
      generalize wr = W0 at *
      have hz0 := hide (show (W0.alloc (.cells #[] 52)).ownsRow W0.heap.size 52 3 (.slice (some ⟨W0.heap.size, 0, none⟩) 0 0) 0 [] from World.ownsRow_lit (base := W0.heap.size) (e := 52) (size := 3) W0 #[] 0 (Nat.le_refl _) (by decide) rfl)
      have hX9 := hide (show Ext W0 (W0.alloc (.cells #[] 52)) from (Ext.refl _).alloc _)
      go_loopg [21, 22] K.length (fun gh u i wr => ∃ (k : Nat) (P : List Vp), i = .int .i64 k ∧ k + gh = K.length ∧ Hid (wr.ownsRow W0.heap.size 52 3 u P.length (pt P) ∧ ∀ p ∈ P, DC L wr W0.heap.size p.1 p.2.2) ∧ Hid (pts P = (K.take k).map (fun t => ((t, hend s t), cbR (eds L) (rowsL (eds L)) t (hend s t)))) ∧ P.length ≤ k ∧ Hid (Ext W0 wr))
      case atStart => exact ⟨0, [], by go_num, by omega, ⟨hz0.out, by intro p hp; cases hp⟩, rfl, by simp, hX9.out⟩
      case round =>
        clear hz0 hX9
        obtain ⟨k, P, rfl, hk, hO, hpt, hPl, hX⟩ := hrel
        generalize wr = W1 at *
        obtain ⟨PA, pcap, rfl⟩ := own_form hO.out.1
        by_cases hlt : k < K.length
        · obtain ⟨x, hx⟩ : ∃ x, K[k]? = some x := ⟨_, List.getElem?_eq_getElem hlt⟩
          have hxb := hKb.out x (List.mem_of_getElem? hx)
          obtain ⟨A', cp', e', -, -, hat⟩ := zw_form (Sl.ext hZ7.out hX.out)
          simp only [Value.slice.injEq] at e'
          obtain ⟨rfl, -, rfl⟩ := e'
          obtain ⟨bk, o, rfl, -, hbl, c0⟩ := hat k x hx
          haveI : In bk W1 := ⟨hbl⟩
          have q0 := hide c0
          have hen := hide (fun w' => hrefEnd_c s x ⟨by omega, by omega⟩ w')
          obtain ⟨y, hy⟩ : ∃ y, y = hend s x := ⟨_, rfl⟩
          rw [← hy] at hen
          have hnx := hide (show (K.take (k + 1)).map (fun t => ((t, hend s t), cbR (eds L) (rowsL (eds L)) t (hend s t))) = (K.take k).map (fun t => ((t, hend s t), cbR (eds L) (rowsL (eds L)) t (hend s t))) ++ [((x, y), cbR (eds L) (rowsL (eds L)) x y)] by rw [List.take_add_one, hx, Option.toList_some, List.map_append, hy]; rfl)
          replace hy := hide hy
          clear hat hx
          go_upto_region 29 with (fail)
          clear c0
          refine wp_region_list_tail 13 [(.is ((.slice (some ⟨bk, o, none⟩) K.length zc))), (.is ((.int .i64 k))), (.is ((.pointer (some ⟨bk, o + k, none⟩)))), (.is ((.int .i64 x))), (.is ((.int .i64 s))), (.is ((.slice (some ⟨bk, o, none⟩) K.length zc))), (.is ((.int .i64 k))), (.is ((.pointer (some ⟨bk, o + k, none⟩)))), (.is ((.int .i64 x))), (.is ((.int .i64 y))), (.is ((.agg #[.int .i64 x, .int .i64 y]))), (.is ((.agg #[.int .i64 x, .int .i64 y, .slice none 0 0]))), (.st (ptP W1.heap.size) (fun _ _ _ h k => h.ext k))] (by kernel_rfl) (by kernel_rfl) (by kernel_rfl) (by kernel_rfl) (by kernel_rfl) (by kernel_rfl) (by kernel_rfl) ?_ ?_
          · refine ⟨?_, ?_, ?_, ?_, ?_, ?_, ?_, ?_, ?_, ?_, ?_, ?_, ?_, trivial⟩
            · intro b w' h hE
              have f12 : b.tmps.getD 12 undef = (.slice (some ⟨bk, o, none⟩) K.length zc) := hE 12 (of_decide_eq_true (by kernel_rfl))
              exact good_move (wanted_none rfl) rfl f12
            · intro b w' h hE
              have f22 : b.tmps.getD 22 undef = (.int .i64 k) := hE 22 (of_decide_eq_true (by kernel_rfl))
              exact good_move (wanted_none rfl) rfl f22
            · intro b w' h hE
              have f108 : b.tmps.getD 108 undef = (.slice (some ⟨bk, o, none⟩) K.length zc) := h.dep 0 _ 108 (by kernel_rfl) rfl rfl
              have f109 : b.tmps.getD 109 undef = (.int .i64 k) := h.dep 1 _ 109 (by kernel_rfl) rfl rfl
              exact good_index (wanted_none rfl) rfl f108 f109 (by simp [go_sem, hlt]) rfl
            · intro b w' h hE
              have f110 : b.tmps.getD 110 undef = (.pointer (some ⟨bk, o + k, none⟩)) := h.dep 2 _ 110 (by kernel_rfl) rfl rfl
              have c0 := cell_later h.ext q0.out
              exact good_load (wanted_none rfl) rfl f110 (by simp [go_sem, c0]) rfl
            · intro b w' h hE
              have f1 : b.tmps.getD 1 undef = (.int .i64 s) := hE 1 (of_decide_eq_true (by kernel_rfl))
              exact good_move (wanted_none rfl) rfl f1
            · intro b w' h hE
              have f12 : b.tmps.getD 12 undef = (.slice (some ⟨bk, o, none⟩) K.length zc) := hE 12 (of_decide_eq_true (by kernel_rfl))
              exact good_move (wanted_none rfl) rfl f12
            · intro b w' h hE
              have f22 : b.tmps.getD 22 undef = (.int .i64 k) := hE 22 (of_decide_eq_true (by kernel_rfl))
              exact good_move (wanted_none rfl) rfl f22
            · intro b w' h hE
              have f113 : b.tmps.getD 113 undef = (.slice (some ⟨bk, o, none⟩) K.length zc) := h.dep 5 _ 113 (by kernel_rfl) rfl rfl
              have f114 : b.tmps.getD 114 undef = (.int .i64 k) := h.dep 6 _ 114 (by kernel_rfl) rfl rfl
              exact good_index (wanted_none rfl) rfl f113 f114 (by simp [go_sem, hlt]) rfl
            · intro b w' h hE
              have f115 : b.tmps.getD 115 undef = (.pointer (some ⟨bk, o + k, none⟩)) := h.dep 7 _ 115 (by kernel_rfl) rfl rfl
              have c0 := cell_later h.ext q0.out
              exact good_load (wanted_none rfl) rfl f115 (by simp [go_sem, c0]) rfl
            · intro b w' h hE
              have f112 : b.tmps.getD 112 undef = (.int .i64 s) := h.dep 4 _ 112 (by kernel_rfl) rfl rfl
              have g112 : b.tmps[112]?.getD undef = (.int .i64 s) := by rw [← Array.getD_eq_getD_getElem?]; exact f112
              have f116 : b.tmps.getD 116 undef = (.int .i64 x) := h.dep 8 _ 116 (by kernel_rfl) rfl rfl
              have g116 : b.tmps[116]?.getD undef = (.int .i64 x) := by rw [← Array.getD_eq_getD_getElem?]; exact f116
              (refine good_call (wanted_none rfl) rfl (enters Tryz.func69 (by kernel_rfl) rfl) ?_; rw [show (#[.tmp 112, .tmp 116] : Array Operand).map b.eval = #[.int .i64 s, .int .i64 x] by simp [Act.eval, g112, g116]]; exact (hen.out w').mono fun e w1 ⟨he, hx⟩ => ⟨_, he, rfl, hx⟩)
            · intro b w' h hE
              have f111 : b.tmps.getD 111 undef = (.int .i64 x) := h.dep 3 _ 111 (by kernel_rfl) rfl rfl
              have g111 : b.tmps[111]?.getD undef = (.int .i64 x) := by rw [← Array.getD_eq_getD_getElem?]; exact f111
              have f117 : b.tmps.getD 117 undef = (.int .i64 y) := h.dep 9 _ 117 (by kernel_rfl) rfl rfl
              have g117 : b.tmps[117]?.getD undef = (.int .i64 y) := by rw [← Array.getD_eq_getD_getElem?]; exact f117
              exact good_run (wanted_none rfl) (by simp [execOp, Act.eval, go_sem, g111, g117, Sem.run_bind, Sem.run_pure, Result.andThen_ok]) rfl
            · intro b w' h hE
              have f118 : b.tmps.getD 118 undef = (.agg #[.int .i64 x, .int .i64 y]) := h.dep 10 _ 118 (by kernel_rfl) rfl rfl
              have g118 : b.tmps[118]?.getD undef = (.agg #[.int .i64 x, .int .i64 y]) := by rw [← Array.getD_eq_getD_getElem?]; exact f118
              exact good_run (wanted_none rfl) (by simp [execOp, Act.eval, go_sem, g118, Sem.run_bind, Sem.run_pure, Result.andThen_ok]) rfl
            · intro b w' h hE
              exact good_grow (w' := w'.alloc (.cells #[.int .i64 0, .int .i64 0, .slice none 0 0] 52)) (v := .pointer (some ⟨w'.heap.size, 0, none⟩)) (wanted_none rfl) (by simp [execOp, go_sem, Sem.run_bind, Sem.run_pure, Result.andThen_ok]) ⟨_, rfl, h.ext.size, Ob.new w' _ [_, _, _]⟩ ((Ext.refl _).alloc _)
          · intro b w2 hX2 hd hz he' hf
            have e108 : b.tmps.getD 108 undef = (.slice (some ⟨bk, o, none⟩) K.length zc) := hf 0 _ 108 (by omega) rfl rfl
            have e109 : b.tmps.getD 109 undef = (.int .i64 k) := hf 1 _ 109 (by omega) rfl rfl
            have e110 : b.tmps.getD 110 undef = (.pointer (some ⟨bk, o + k, none⟩)) := hf 2 _ 110 (by omega) rfl rfl
            have e111 : b.tmps.getD 111 undef = (.int .i64 x) := hf 3 _ 111 (by omega) rfl rfl
            have e112 : b.tmps.getD 112 undef = (.int .i64 s) := hf 4 _ 112 (by omega) rfl rfl
            have e113 : b.tmps.getD 113 undef = (.slice (some ⟨bk, o, none⟩) K.length zc) := hf 5 _ 113 (by omega) rfl rfl
            have e114 : b.tmps.getD 114 undef = (.int .i64 k) := hf 6 _ 114 (by omega) rfl rfl
            have e115 : b.tmps.getD 115 undef = (.pointer (some ⟨bk, o + k, none⟩)) := hf 7 _ 115 (by omega) rfl rfl
            have e116 : b.tmps.getD 116 undef = (.int .i64 x) := hf 8 _ 116 (by omega) rfl rfl
            have e117 : b.tmps.getD 117 undef = (.int .i64 y) := hf 9 _ 117 (by omega) rfl rfl
            have e118 : b.tmps.getD 118 undef = (.agg #[.int .i64 x, .int .i64 y]) := hf 10 _ 118 (by omega) rfl rfl
            have e119 : b.tmps.getD 119 undef = (.agg #[.int .i64 x, .int .i64 y, .slice none 0 0]) := hf 11 _ 119 (by omega) rfl rfl
            have f23 : ptP W1.heap.size (b.tmps.getD 23 undef) w2 := hf 12 _ 23 (by omega) rfl rfl
            have e := frame_puts hd hz he'
            obtain ⟨X, hXx⟩ : ∃ X : Nat → Value, ∀ d, b.tmps.getD d undef = X d := ⟨_, fun _ => rfl⟩
            rw [hXx] at e108 e109 e110 e111 e112 e113 e114 e115 e116 e117 e118 e119 f23
            obtain ⟨pb, q23, hpge, hpb0⟩ := f23
            rw [show dstsOf _ = [108, 109, 110, 111, 112, 113, 114, 115, 116, 117, 118, 119, 23] from rfl] at e
            simp only [List.foldl_cons, List.foldl_nil, hXx, Act.put, List.setIfInBounds_toArray, List.set_cons_succ, List.set_cons_zero] at e
            rw [e108, e109, e110, e111, e112, e113, e114, e115, e116, e117, e118, e119, q23] at e
            clear hf he' hz hd hXx e108 e109 e110 e111 e112 e113 e114 e115 e116 e117 e118 e119 q23
            subst e
            have hzw := hX2.size
            simp only [List.drop_succ_cons, List.drop_zero]
            have hlp := hpb0.lt
            have i9 : In pb w2 := ⟨hlp⟩
            have z0 := hpb0.cell 0 rfl
            have z1 := hpb0.cell 1 rfl
            have z2 := hpb0.cell 2 rfl
            have y0 := hpb0.free 0
            have y1 := hpb0.free 1
            have y2 := hpb0.free 2
            go_upto_region 30 with (fail)
            have hb5 : Ob (((w2.setCell ⟨pb, 0, none⟩ (.int .i64 x)).setCell ⟨pb, 1, none⟩ (.int .i64 y)).setCell ⟨pb, 2, none⟩ (.slice none 0 0)) pb 52 [.int .i64 x, .int .i64 y, .slice none 0 0] := ((hpb0.set 0 _).set 1 _).set 2 _
            have hX5 : Ext W1 (((w2.setCell ⟨pb, 0, none⟩ (.int .i64 x)).setCell ⟨pb, 1, none⟩ (.int .i64 y)).setCell ⟨pb, 2, none⟩ (.slice none 0 0)) := ((hX2.setCell (p := ⟨pb, 0, none⟩) hpge _).setCell (p := ⟨pb, 1, none⟩) hpge _).setCell (p := ⟨pb, 2, none⟩) hpge _
            generalize ((w2.setCell ⟨pb, 0, none⟩ (.int .i64 x)).setCell ⟨pb, 1, none⟩ (.int .i64 y)).setCell ⟨pb, 2, none⟩ (.slice none 0 0) = W5 at *
            clear z0 z1 z2 y0 y1 y2 hpb0 hX2 i9 hlp hzw
            replace hb5 := hide hb5
            replace hX5 := hide hX5
            replace hpge := hide hpge
            go_wp2_with fail
            go_loopg [24] M.length (fun gh i wr => ∃ (q : Nat) (C : List Vc) (rv : Value), i = .int .i64 q ∧ q + gh = M.length ∧ Hid (Ob wr pb 52 [.int .i64 x, .int .i64 y, rv] ∧ DC L wr W1.heap.size rv C) ∧ Hid (cps C = cbR (eds L) ((rowsL (eds L)).take q) x y) ∧ C.length ≤ q ∧ Hid (Ext W1 wr))
            case atStart => exact ⟨0, [], .slice none 0 0, by go_num, by omega, ⟨hb5.out, World.ownsRow_nil _ _ _ _, by simp⟩, rfl, by simp, hX5.out⟩
            case round =>
              clear hb5 hX5
              obtain ⟨q, C, rv, rfl, hq, hB, hcp, hCl, hY⟩ := hrel
              generalize wr = W6 at *
              obtain ⟨CA, ccap, hrv⟩ := own_form hB.out.2.1
              rw [hrv] at hB
              clear hrv
              by_cases hql : q < M.length
              · obtain ⟨⟨xv, rw⟩, hd⟩ : ∃ p, M[q]? = some p := ⟨_, List.getElem?_eq_getElem hql⟩
                have hw6 := hX7.out.trans (hX.out.trans hY.out)
                have hM6 := hide (own_ext ho7.out (hX.out.trans hY.out))
                obtain ⟨A', cap', e', -, -, hat⟩ := rs_form (Sl.own (S := []) hM6.out (by simp))
                simp only [Value.slice.injEq] at e'
                obtain ⟨rfl, -, rfl⟩ := e'
                obtain ⟨b2, o2, rfl, -, hb2l, c0⟩ := hat q _ hd
                simp only at c0
                have hgk : (rowsL (eds L))[q]? = some rw := by rw [← hM'.out, List.getElem?_map, hd]; rfl
                have hnx2 := hide (cbR_next hgk (eds L) x y)
                have hxq := hin6.out _ (List.mem_of_getElem? hd)
                simp only at hxq
                have hxr : Rw w [] xv rw := by
                  obtain ⟨p, hp, e1, e2⟩ := hxq
                  rw [← e1, ← e2]
                  exact hC'.out.2 p hp
                have hsf := hspf.out rw
                have hje := hide (fun w' (hX' : Ext W6 w') => hju.out rw xv w' (hw6.trans hX') hxr)
                obtain ⟨J, hJ⟩ : ∃ J, J = jmps (eds L) rw := ⟨_, rfl⟩
                rw [← hJ] at hje hsf hnx2
                obtain ⟨s1, s2, s3⟩ := hsf
                have hbl2 := hide (fun v' w' (h : Jw w' [] v' J) => refBelongs_c J s1 (by omega) x y v' w' h)
                have hNl := belN_le (lifeL J) x y
                obtain ⟨N, hN⟩ : ∃ N, N = belN (lifeL J) x y := ⟨_, rfl⟩
                rw [← hN] at hbl2 hnx2 hNl
                replace hJ := hide hJ
                replace hN := hide hN
                obtain ⟨XA, xcap, rfl⟩ := rw_val hxr
                haveI : In b2 W6 := ⟨hb2l⟩
                have hxq' := hide hxq
                have c0' := hide c0
                have m0' := hide (hB.out.1.cell 0 rfl)
                have m1' := hide (hB.out.1.cell 1 rfl)
                have hd' := hide hd
                clear hat hd hgk hxr hxq s1 s2 hw6 c0
                go_upto_region 33 with (fail)
                refine wp_region_list [(.is ((.slice A L.length cap))), (.is ((.slice (some ⟨b2, o2, none⟩) M.length rc1))), (.is ((.int .i64 q))), (.is ((.pointer (some ⟨b2, o2 + q, none⟩)))), (.is ((.slice XA rw.length xcap))), (.st (fun v w5 => OwnJ w5 W6.heap.size v J) (fun _ _ _ h k => own_ext h k)), (.is ((.pointer (some ⟨pb, 0, none⟩)))), (.is ((.agg #[.int .i64 x, .int .i64 y]))), (.is ((.int .i64 N))), (.is ((.int .i64 N)))] (by kernel_rfl) (by kernel_rfl) (by kernel_rfl) ?_ ?_
                · refine ⟨?_, ?_, ?_, ?_, ?_, ?_, ?_, ?_, ?_, ?_, trivial⟩
                  · intro b w' h
                    have f0 : b.tmps.getD 0 undef = (.slice A L.length cap) := h.else_ 0 (of_decide_eq_true (by kernel_rfl))
                    exact good_move (wanted_none rfl) rfl f0
                  · intro b w' h
                    have f13 : b.tmps.getD 13 undef = (.slice (some ⟨b2, o2, none⟩) M.length rc1) := h.else_ 13 (of_decide_eq_true (by kernel_rfl))
                    exact good_move (wanted_none rfl) rfl f13
                  · intro b w' h
                    have f24 : b.tmps.getD 24 undef = (.int .i64 q) := h.else_ 24 (of_decide_eq_true (by kernel_rfl))
                    exact good_move (wanted_none rfl) rfl f24
                  · intro b w' h
                    have f127 : b.tmps.getD 127 undef = (.slice (some ⟨b2, o2, none⟩) M.length rc1) := h.dep 1 _ 127 (by kernel_rfl) rfl rfl
                    have f128 : b.tmps.getD 128 undef = (.int .i64 q) := h.dep 2 _ 128 (by kernel_rfl) rfl rfl
                    exact good_index (wanted_none rfl) rfl f127 f128 (by simp [go_sem, hql]) rfl
                  · intro b w' h
                    have f129 : b.tmps.getD 129 undef = (.pointer (some ⟨b2, o2 + q, none⟩)) := h.dep 3 _ 129 (by kernel_rfl) rfl rfl
                    have c0 := cell_later h.ext c0'.out
                    exact good_load (wanted_none rfl) rfl f129 (by simp [go_sem, c0]) rfl
                  · intro b w' h
                    have f126 : b.tmps.getD 126 undef = (.slice A L.length cap) := h.dep 0 _ 126 (by kernel_rfl) rfl rfl
                    have g126 : b.tmps[126]?.getD undef = (.slice A L.length cap) := by rw [← Array.getD_eq_getD_getElem?]; exact f126
                    have f130 : b.tmps.getD 130 undef = (.slice XA rw.length xcap) := h.dep 4 _ 130 (by kernel_rfl) rfl rfl
                    have g130 : b.tmps[130]?.getD undef = (.slice XA rw.length xcap) := by rw [← Array.getD_eq_getD_getElem?]; exact f130
                    refine good_call (wanted_none rfl) rfl (enters Tryz.func66 (by kernel_rfl) rfl) ?_
                    rw [show (#[.tmp 126, .tmp 130] : Array Operand).map b.eval = #[.slice A L.length cap, .slice XA rw.length xcap] by simp [Act.eval, g126, g130]]
                    exact (hje.out w' h.ext).mono fun e w1 ⟨v1, he, ho, hx⟩ => ⟨v1, he, own_base ho h.ext.size, hx⟩
                  · intro b w' h
                    have f23 : b.tmps.getD 23 undef = (.pointer (some ⟨pb, 0, none⟩)) := h.else_ 23 (of_decide_eq_true (by kernel_rfl))
                    exact good_field (wanted_none rfl) rfl f23 (by simp [go_sem]) rfl
                  · intro b w' h
                    have f132 : b.tmps.getD 132 undef = (.pointer (some ⟨pb, 0, none⟩)) := h.dep 6 _ 132 (by kernel_rfl) rfl rfl
                    have c0 := cell_later h.ext m0'.out
                    have c1 := cell_later h.ext m1'.out
                    exact good_load (wanted_none rfl) rfl f132 (by simp [go_sem, c0, c1]) rfl
                  · intro b w' h
                    have f131 : OwnJ w' W6.heap.size (b.tmps.getD 131 undef) J := h.dep 5 _ 131 (by kernel_rfl) rfl rfl
                    have f133 : b.tmps.getD 133 undef = (.agg #[.int .i64 x, .int .i64 y]) := h.dep 7 _ 133 (by kernel_rfl) rfl rfl
                    have g133 : b.tmps[133]?.getD undef = (.agg #[.int .i64 x, .int .i64 y]) := by rw [← Array.getD_eq_getD_getElem?]; exact f133
                    (obtain ⟨JA, jc, e131⟩ := own_form f131; have g131 : b.tmps[131]?.getD undef = .slice JA J.length jc := (by rw [← Array.getD_eq_getD_getElem?]; exact e131); rw [e131] at f131; refine good_call (wanted_none rfl) rfl (enters Tryz.func70 (by kernel_rfl) rfl) ?_; rw [show (#[.tmp 131, .tmp 133] : Array Operand).map b.eval = #[.slice JA J.length jc, .agg #[.int .i64 x, .int .i64 y]] by simp [Act.eval, g131, g133]]; exact (hbl2.out _ w' (own_jw (S := []) f131 (by simp))).mono fun e w1 ⟨he, hx⟩ => ⟨_, he, rfl, hx⟩)
                  · intro b w' h
                    have f134 : b.tmps.getD 134 undef = (.int .i64 N) := h.dep 8 _ 134 (by kernel_rfl) rfl rfl
                    exact good_assign (wanted_none rfl) rfl f134
                · intro b w2 hX2 hd hz he' hf
                  have e126 : b.tmps.getD 126 undef = (.slice A L.length cap) := hf 0 _ 126 rfl rfl
                  have e127 : b.tmps.getD 127 undef = (.slice (some ⟨b2, o2, none⟩) M.length rc1) := hf 1 _ 127 rfl rfl
                  have e128 : b.tmps.getD 128 undef = (.int .i64 q) := hf 2 _ 128 rfl rfl
                  have e129 : b.tmps.getD 129 undef = (.pointer (some ⟨b2, o2 + q, none⟩)) := hf 3 _ 129 rfl rfl
                  have e130 : b.tmps.getD 130 undef = (.slice XA rw.length xcap) := hf 4 _ 130 rfl rfl
                  have f131 : OwnJ w2 W6.heap.size (b.tmps.getD 131 undef) J := hf 5 _ 131 rfl rfl
                  have e132 : b.tmps.getD 132 undef = (.pointer (some ⟨pb, 0, none⟩)) := hf 6 _ 132 rfl rfl
                  have e133 : b.tmps.getD 133 undef = (.agg #[.int .i64 x, .int .i64 y]) := hf 7 _ 133 rfl rfl
                  have e134 : b.tmps.getD 134 undef = (.int .i64 N) := hf 8 _ 134 rfl rfl
                  have e25 : b.tmps.getD 25 undef = (.int .i64 N) := hf 9 _ 25 rfl rfl
                  have e := frame_puts hd hz he'
                  obtain ⟨X, hXx⟩ : ∃ X : Nat → Value, ∀ d, b.tmps.getD d undef = X d := ⟨_, fun _ => rfl⟩
                  rw [hXx] at e126 e127 e128 e129 e130 e132 e133 e134 e25 f131
                  obtain ⟨JA, jc, q131⟩ := own_form f131
                  rw [show dstsOf _ = [126, 127, 128, 129, 130, 131, 132, 133, 134, 25] from rfl] at e
                  simp only [List.foldl_cons, List.foldl_nil, hXx, Act.put, List.setIfInBounds_toArray, List.set_cons_succ, List.set_cons_zero] at e
                  rw [e126, e127, e128, e129, e130, e132, e133, e134, e25, q131] at e
                  clear hf he' hz hd hXx e126 e127 e128 e129 e130 e132 e133 e134 e25 q131
                  subst e
                  have hzw := hX2.size
                  skip
                  have hX33 := hide hX2
                  have hzw6 := hzw
                  clear hX2 hzw
                  generalize w2 = W7 at *
                  have hB7 := hide (hB.out.1.ext hX33.out)
                  have hD7 := hide (hB.out.2.ext hX33.out)
                  have hM7 := hide (own_ext hM6.out hX33.out)
                  have hn7 : Hid (pb ∉ ob (Value.slice CA C.length ccap)) := fun hm => (Ob.not_own hB7.out hD7.out.1 (by decide)) (Option.mem_toList.1 hm)
                  have hl7 := hB7.out.lt
                  haveI : In pb W7 := ⟨hl7⟩
                  have hzY := hY.out.size
                  by_cases hs0 : 0 < N
                  · have hnx3 := hide (show cbR (eds L) ((rowsL (eds L)).take (q + 1)) x y = cbR (eds L) ((rowsL (eds L)).take q) x y ++ [(rw, N)] by rw [hnx2.out, if_pos hs0])
                    have hVlt : Hid (∀ z ∈ ob (Value.slice CA C.length ccap), z < W7.heap.size) := fun z hz => (ob_ge hD7.out.1 z hz).2
                    have hrow : Hid (∀ w', Fr (ob (.slice CA C.length ccap)) W7 w' → w'.cell? ⟨b2, o2 + q, none⟩ = some (.slice XA rw.length xcap)) := fun w' hF => by
                      obtain ⟨A', cap', e', -, -, hat⟩ := rs_form (Sl.own (S := []) (own_away hM7.out hF (own_far hD7.out.1 hM7.out (by decide))) (by simp))
                      simp only [Value.slice.injEq] at e'
                      obtain ⟨rfl, -, rfl⟩ := e'
                      obtain ⟨b', o', e2, -, -, c⟩ := hat q _ hd'.out
                      cases e2
                      exact c
                    have hst145 : ∀ (v : Value) (Wa Wb : World), (∃ p, v = .slice (some ⟨p, 0, none⟩) 1 1 ∧ (W7.heap.size ≤ p ∧ Ob Wa p 56 [.slice XA rw.length xcap, .int .i64 N])) → Ext Wa Wb → (∃ p, v = .slice (some ⟨p, 0, none⟩) 1 1 ∧ (W7.heap.size ≤ p ∧ Ob Wb p 56 [.slice XA rw.length xcap, .int .i64 N])) := by
                      rintro v Wa Wb ⟨p, h1, h2, h3⟩ e
                      exact ⟨p, h1, h2, h3.ext e⟩
                    have hst146 : ∀ (v : Value) (Wa Wb : World), (DC L Wa W1.heap.size v (C ++ [(.slice XA rw.length xcap, (rw, N))]) ∧ ∀ b ∈ ob v, b ∈ ob (.slice CA C.length ccap) ∨ W7.heap.size ≤ b) → Ext Wa Wb → (DC L Wb W1.heap.size v (C ++ [(.slice XA rw.length xcap, (rw, N))]) ∧ ∀ b ∈ ob v, b ∈ ob (.slice CA C.length ccap) ∨ W7.heap.size ≤ b) := by
                      rintro v Wa Wb ⟨h1, h2⟩ e
                      exact ⟨h1.ext e, h2⟩
                    go_upto_region 35 with (fail)
                    refine wp_region_list_once (G := Fr (ob (.slice CA C.length ccap))) 11 9 [(.is (.pointer (some ⟨pb, 2, none⟩))), (.is (.slice CA C.length ccap)), (.is (.slice (some ⟨b2, o2, none⟩) M.length rc1)), (.is (.int .i64 q)), (.is (.pointer (some ⟨b2, o2 + q, none⟩))), (.is (.slice XA rw.length xcap)), (.is (.int .i64 N)), (.is (.agg #[.slice XA rw.length xcap, .int .i64 N])), (.st (fun v w5 => ∃ p, v = .slice (some ⟨p, 0, none⟩) 1 1 ∧ (W7.heap.size ≤ p ∧ Ob w5 p 56 [.slice XA rw.length xcap, .int .i64 N])) hst145), (.st (fun v w5 => DC L w5 W1.heap.size v (C ++ [(.slice XA rw.length xcap, (rw, N))]) ∧ ∀ b ∈ ob v, b ∈ ob (.slice CA C.length ccap) ∨ W7.heap.size ≤ b) hst146), (.is (.pointer (some ⟨pb, 2, none⟩)))] (fun _ _ h => Fr.of_ext h) (fun _ _ _ h k => h.trans k) ?_ (by kernel_rfl) (by kernel_rfl) (by kernel_rfl) (by kernel_rfl) (by kernel_rfl) (by kernel_rfl) (by kernel_rfl) ?_ ?_
                    · intro j0 v0 A0 A1 hj0 _ hh hF0
                      rcases j0 with _ | _ | _ | _ | _ | _ | _ | _ | _ | _ | _ | j0
                      all_goals first | exact hh | exact absurd rfl hj0 | skip
                      obtain ⟨p, q1, q2, q3⟩ := hh
                      exact ⟨p, q1, q2, q3.fr hF0 (fun hm => by have := hVlt.out p hm; omega)⟩
                    · refine ⟨?_, ?_, ?_, ?_, ?_, ?_, ?_, ?_, ?_, ?_, ?_, trivial⟩
                      · intro b w' h hE
                        have f23 : b.tmps.getD 23 undef = (.pointer (some ⟨pb, 0, none⟩)) := hE 23 (of_decide_eq_true (by kernel_rfl))
                        have g23 : b.tmps[23]?.getD undef = (.pointer (some ⟨pb, 0, none⟩)) := by rw [← Array.getD_eq_getD_getElem?]; exact f23
                        exact .inl (good_field (wanted_none rfl) rfl f23 (by simp [go_sem]) rfl)
                      · intro b w' h hE
                        have f137 : b.tmps.getD 137 undef = (.pointer (some ⟨pb, 2, none⟩)) := h.dep 0 _ 137 (by kernel_rfl) rfl rfl
                        have g137 : b.tmps[137]?.getD undef = (.pointer (some ⟨pb, 2, none⟩)) := by rw [← Array.getD_eq_getD_getElem?]; exact f137
                        have c0 := (hB7.out.fr h.ext hn7.out).cell 2 rfl
                        exact .inl (good_load (wanted_none rfl) rfl f137 (by simp [go_sem, c0]) rfl)
                      · intro b w' h hE
                        have f13 : b.tmps.getD 13 undef = (.slice (some ⟨b2, o2, none⟩) M.length rc1) := hE 13 (of_decide_eq_true (by kernel_rfl))
                        have g13 : b.tmps[13]?.getD undef = (.slice (some ⟨b2, o2, none⟩) M.length rc1) := by rw [← Array.getD_eq_getD_getElem?]; exact f13
                        exact .inl (good_move (wanted_none rfl) rfl f13)
                      · intro b w' h hE
                        have f24 : b.tmps.getD 24 undef = (.int .i64 q) := hE 24 (of_decide_eq_true (by kernel_rfl))
                        have g24 : b.tmps[24]?.getD undef = (.int .i64 q) := by rw [← Array.getD_eq_getD_getElem?]; exact f24
                        exact .inl (good_move (wanted_none rfl) rfl f24)
                      · intro b w' h hE
                        have f139 : b.tmps.getD 139 undef = (.slice (some ⟨b2, o2, none⟩) M.length rc1) := h.dep 2 _ 139 (by kernel_rfl) rfl rfl
                        have g139 : b.tmps[139]?.getD undef = (.slice (some ⟨b2, o2, none⟩) M.length rc1) := by rw [← Array.getD_eq_getD_getElem?]; exact f139
                        have f140 : b.tmps.getD 140 undef = (.int .i64 q) := h.dep 3 _ 140 (by kernel_rfl) rfl rfl
                        have g140 : b.tmps[140]?.getD undef = (.int .i64 q) := by rw [← Array.getD_eq_getD_getElem?]; exact f140
                        exact .inl (good_index (wanted_none rfl) rfl f139 f140 (by simp [go_sem, hql]) rfl)
                      · intro b w' h hE
                        have f141 : b.tmps.getD 141 undef = (.pointer (some ⟨b2, o2 + q, none⟩)) := h.dep 4 _ 141 (by kernel_rfl) rfl rfl
                        have g141 : b.tmps[141]?.getD undef = (.pointer (some ⟨b2, o2 + q, none⟩)) := by rw [← Array.getD_eq_getD_getElem?]; exact f141
                        have c0 := hrow.out w' h.ext
                        exact .inl (good_load (wanted_none rfl) rfl f141 (by simp [go_sem, c0]) rfl)
                      · intro b w' h hE
                        have f25 : b.tmps.getD 25 undef = (.int .i64 N) := hE 25 (of_decide_eq_true (by kernel_rfl))
                        have g25 : b.tmps[25]?.getD undef = (.int .i64 N) := by rw [← Array.getD_eq_getD_getElem?]; exact f25
                        exact .inl (good_move (wanted_none rfl) rfl f25)
                      · intro b w' h hE
                        have f142 : b.tmps.getD 142 undef = (.slice XA rw.length xcap) := h.dep 5 _ 142 (by kernel_rfl) rfl rfl
                        have g142 : b.tmps[142]?.getD undef = (.slice XA rw.length xcap) := by rw [← Array.getD_eq_getD_getElem?]; exact f142
                        have f143 : b.tmps.getD 143 undef = (.int .i64 N) := h.dep 6 _ 143 (by kernel_rfl) rfl rfl
                        have g143 : b.tmps[143]?.getD undef = (.int .i64 N) := by rw [← Array.getD_eq_getD_getElem?]; exact f143
                        exact .inl (good_run (wanted_none rfl) (by simp [execOp, Act.eval, go_sem, g142, g143, Sem.run_bind, Sem.run_pure, Result.andThen_ok]) rfl)
                      · intro b w' h hE
                        have f144 : b.tmps.getD 144 undef = (.agg #[.slice XA rw.length xcap, .int .i64 N]) := h.dep 7 _ 144 (by kernel_rfl) rfl rfl
                        have g144 : b.tmps[144]?.getD undef = (.agg #[.slice XA rw.length xcap, .int .i64 N]) := by rw [← Array.getD_eq_getD_getElem?]; exact f144
                        exact .inl (good_grow (w' := w'.alloc (.cells #[.slice XA rw.length xcap, .int .i64 N] 56)) (v := .slice (some ⟨w'.heap.size, 0, none⟩) 1 1) (wanted_none rfl) (by simp [execOp, Act.eval, go_sem, g144, Sem.run_bind, Sem.run_pure, Result.andThen_ok]) ⟨_, rfl, h.ext.size, Ob.new w' _ [_, _]⟩ ((Ext.refl _).alloc _))
                      · intro b w' h hE
                        have f138 : b.tmps.getD 138 undef = (.slice CA C.length ccap) := h.dep 1 _ 138 (by kernel_rfl) rfl rfl
                        have g138 : b.tmps[138]?.getD undef = (.slice CA C.length ccap) := by rw [← Array.getD_eq_getD_getElem?]; exact f138
                        have f145 : (fun v w5 => ∃ p, v = .slice (some ⟨p, 0, none⟩) 1 1 ∧ (W7.heap.size ≤ p ∧ Ob w5 p 56 [.slice XA rw.length xcap, .int .i64 N])) (b.tmps.getD 145 undef) w' := h.dep 8 _ 145 (by kernel_rfl) rfl rfl
                        have hXe := h.early rfl
                        obtain ⟨p, e145, hpz, hpo⟩ := f145
                        have hCe := hD7.out.ext hXe
                        have hzx := hXe.size
                        obtain ⟨v8, w8, hrun, ho8, hg8, hb8⟩ := run_app (ty := 50) tCp hCe.1 (src_sl Tryz.underlying50 (S := []) (size := 2) (n := 1) (v := .slice (some ⟨p, 0, none⟩) 1 1) (xs := [.slice XA rw.length xcap, .int .i64 N]) ⟨_, 1, rfl, Nat.le_refl _, by unfold maxLen; omega, by simp, .inr ⟨p, 0, rfl, by simp, fun j u hu => by rw [Nat.zero_add]; exact hpo.cell j hu⟩⟩ (by intro u hu; simp only [List.mem_cons, List.not_mem_nil, or_false] at hu; rcases hu with rfl | rfl <;> rfl) (by omega)) (by unfold maxLen; omega) (by omega) (by omega)
                        refine .inr ⟨rfl, wanted_none rfl, ?_⟩
                        unfold Oper.wp execOp
                        simp only [resolve, invoke, builtin, Sem.run_bind, Sem.run_pure, Result.andThen_ok, List.map_toArray, List.map_cons, List.map_nil, Act.eval, f138, e145, hrun]
                        refine ⟨v8, rfl, ⟨⟨by rw [List.length_append, cc_append]; simpa [cc, cc1] using ho8, fun p hp => ?_⟩, fun b hb => ?_⟩, fr_grown hg8⟩
                        · rcases List.mem_append.1 hp with hp | hp
                          · exact hCe.2 p hp
                          · obtain rfl := List.mem_singleton.1 hp
                            exact hxq'.out
                        rcases hb8 with h8 | h8
                        · exact .inl (by unfold ob; rw [← h8]; exact hb)
                        · refine .inr ?_; have := Option.mem_toList.1 hb; rw [h8] at this; have := Option.some.inj this; omega
                      · intro b w' h hE
                        have f23 : b.tmps.getD 23 undef = (.pointer (some ⟨pb, 0, none⟩)) := hE 23 (of_decide_eq_true (by kernel_rfl))
                        have g23 : b.tmps[23]?.getD undef = (.pointer (some ⟨pb, 0, none⟩)) := by rw [← Array.getD_eq_getD_getElem?]; exact f23
                        exact .inl (good_field (wanted_none rfl) rfl f23 (by simp [go_sem]) rfl)
                    · intro b w8 hF8 hd hz8 he8 hf8
                      have f146 : (fun v w5 => DC L w5 W1.heap.size v (C ++ [(.slice XA rw.length xcap, (rw, N))]) ∧ ∀ b ∈ ob v, b ∈ ob (.slice CA C.length ccap) ∨ W7.heap.size ≤ b) (b.tmps.getD 146 undef) w8 := hf8 9 _ 146 (by omega) rfl rfl
                      have f147 : b.tmps.getD 147 undef = (.pointer (some ⟨pb, 2, none⟩)) := hf8 10 _ 147 (by omega) rfl rfl
                      have e := frame_puts hd hz8 he8
                      obtain ⟨X, hXx⟩ : ∃ X : Nat → Value, ∀ d, b.tmps.getD d undef = X d := ⟨_, fun _ => rfl⟩
                      rw [hXx] at f146 f147
                      obtain ⟨hC9, hb9⟩ := f146
                      obtain ⟨A8, c8, q146⟩ := own_form hC9.1
                      rw [show dstsOf _ = [137, 138, 139, 140, 141, 142, 143, 144, 145, 146, 147] from rfl] at e
                      simp only [List.foldl_cons, List.foldl_nil, hXx, Act.put, List.setIfInBounds_toArray, List.set_cons_succ, List.set_cons_zero] at e
                      rw [f147, q146] at e
                      rw [q146] at hC9 hb9
                      clear hf8 he8 hz8 hd hXx f147 q146
                      subst e
                      simp only [List.drop_succ_cons, List.drop_zero]
                      have hb8 := hB7.out.fr hF8 hn7.out
                      have l8 := hb8.lt
                      haveI : In pb w8 := ⟨l8⟩
                      have z2 := hb8.cell 2 rfl
                      have y2 := hb8.free 2
                      have hl9 : (C ++ [(Value.slice XA rw.length xcap, (rw, N))]).length = C.length + 1 := by simp
                      rw [hl9] at hC9
                      have hb8' := hide hb8
                      have hF8' := hide hF8
                      have hC9' := hide hC9
                      clear hF8 hb8 hb9 hC9
                      go_wp2_with fail
                      go_roundg (M.length - (q + 1))
                      case measure => omega
                      case rel =>
                        refine ⟨q + 1, C ++ [(.slice XA rw.length xcap, (rw, N))], .slice A8 (C.length + 1) c8, by go_num, by omega, ⟨hb8'.out.set 2 _, hC9'.out.away ((Fr.refl [pb] w8).setCell ⟨pb, 2, none⟩ _ (.inl (by simp))) (fun b hb hm => ?_)⟩, ?_, by simp; omega, (ext_fr (hY.out.trans hX33.out) hF8'.out (fun z hz => (ob_ge hD7.out.1 z hz).1)).setCell (p := ⟨pb, 2, none⟩) hpge.out _⟩
                        · rw [List.mem_singleton] at hb
                          subst hb
                          exact (Ob.not_own hb8'.out hC9'.out.1 (by decide)) (Option.mem_toList.1 hm)
                        · show _ = _
                          rw [hnx3.out, ← hcp.out]
                          simp
                  · have hnx3 := hide (show cbR (eds L) ((rowsL (eds L)).take (q + 1)) x y = cbR (eds L) ((rowsL (eds L)).take q) x y by rw [hnx2.out, if_neg hs0, List.append_nil])
                    go_wp2_with fail
                    go_roundg (M.length - (q + 1))
                    case measure => omega
                    case rel => exact ⟨q + 1, C, .slice CA C.length ccap, by go_num, by omega, ⟨hB7.out, hD7.out⟩, (by show _ = _; rw [hnx3.out]; exact hcp.out), by omega, hY.out.trans hX33.out⟩
              · have hqe : (rowsL (eds L)).take q = rowsL (eds L) := List.take_of_length_le (by rw [← hMe.out]; omega)
                have hcf := hide (show cps C = cbR (eds L) (rowsL (eds L)) x y from hcp.out.trans (congrArg (fun R => cbR (eds L) R x y) hqe))
                clear hqe
                have hbl2 := hB.out.1.lt
                haveI : In pb W6 := ⟨hbl2⟩
                have m0 := hB.out.1.cell 0 rfl
                have m1 := hB.out.1.cell 1 rfl
                have m2 := hB.out.1.cell 2 rfl
                have hO6 := hide (own_ext hO.out.1 hY.out)
                have hzW := hY.out.size
                have hz5 := hX.out.size
                have hsrc := hide (src_sl Tryz.underlying34 (sl_lit W6 52 3 [.int .i64 x, .int .i64 y, .slice CA C.length ccap] rfl) (by intro u hu; simp only [List.mem_cons, List.not_mem_nil, or_false] at hu; rcases hu with rfl | rfl | rfl <;> rfl) (by omega))
                have hbs := hide (own_ext hO6.out ((Ext.refl W6).alloc (.cells #[.int .i64 x, .int .i64 y, .slice CA C.length ccap] 52)))
                have hbz := hide (Nat.le_trans (Nat.le_trans hz5 hzW) ((Ext.refl W6).alloc (.cells #[.int .i64 x, .int .i64 y, .slice CA C.length ccap] 52)).size)
                go_wp2_with (at_builtin; (refine wpl_app tPa rfl (.tmp 148) (.tmp 150) rfl rfl hbs.out rfl hsrc.out (by unfold maxLen; omega) (by omega) hbz.out ?_; intro v8 w8 ho8 hg8 hob8; have ho9 := hide ho8; have hg9 := hide hg8; obtain ⟨A8, c8, q8⟩ := own_form ho8; subst q8; clear ho8 hg8 hob8))
                have hF9 : Fr (ob (.slice PA P.length pcap)) W6 w8 := ((Fr.refl _ _).alloc _).grown hg9.out (fun j hj => .inl (Option.mem_toList.2 hj))
                have hobP := ob_ge hO.out.1
                go_roundg (K.length - (k + 1))
                case measure => omega
                case rel =>
                  refine ⟨k + 1, P ++ [(Value.slice CA C.length ccap, (x, y), C)], by go_num, by omega, ⟨by rw [List.length_append, pt_append]; simpa [pt, pt1] using ho9.out, fun p hp => ?_⟩, ?_, by simp; omega, ext_fr (hX.out.trans hY.out) hF9 (fun y hy => (hobP y hy).1)⟩
                  · rcases List.mem_append.1 hp with hp | hp
                    · exact ((hO.out.2 p hp).ext hY.out).away hF9 (own_far hO6.out ((hO.out.2 p hp).ext hY.out).1 (by decide))
                    · obtain rfl := List.mem_singleton.1 hp
                      exact (DC.base hB.out.2 hz5).away hF9 (own_far hO6.out hB.out.2.1 (by decide))
                  · show _ = _
                    rw [hnx.out, ← hpt.out, pts_append]
                    simp [hcf.out]
        · have hfin := hide (show pts P = RR by rw [hpt.out, List.take_of_length_le (by omega)]; exact e8.out.symm)
          go_wp2_with fail
          go_returns
          rw [e7.out]
          exact ⟨_, P, rfl, hfin.out, ⟨Sl.own hO.out.1 (by simp), fun p hp => (hO.out.2 p hp).cw (hC'.out.ext (hX7.out.trans hX.out))⟩, hX7.out.trans hX.out⟩
set_option maxHeartbeats 4000000 in
theorem hfew_c (L : List Ve) (v : Value) (w : World) (hC : Ew w [] v L) : Calls Tryz.prog 23 #[v] w fun e w' => e = .returned (.bool (fewB (eds L))) ∧ Ext w w' := by
  have hC' := hide hC
  obtain ⟨A, cap, rfl, hlc, hlm, -⟩ := ew_form hC
  unfold maxLen at hlm
  clear hC
  have hel : (eds L).length = L.length := List.length_map _
  by_cases h60 : L.length ≤ 60
  case neg =>
    have hB : fewB (eds L) = false := by unfold fewB; rw [decide_eq_false (by omega), Bool.false_and]
    rw [hB]
    have h60b : ¬ (L.length : Int) ≤ 60 := by omega
    clear hB
    go_enter Tryz.func23, Tryz.ntmps23
    go_wp2_with fail
    go_loopg [4] L.length (fun gh i wr => i = .int .i64 0 ∧ gh = L.length ∧ wr = w)
    case atStart => exact ⟨rfl, rfl, rfl⟩
    case round =>
      obtain ⟨rfl, rfl, rfl⟩ := hrel
      have hl0 : decide ((0 : Int) < (L.length : Int)) = true := decide_eq_true (by omega)
      go_wp2_with fail
      go_returns
      exact ⟨by first | rfl | (simp; done) | (simp; omega), Ext.refl _⟩
  have h60b : (L.length : Int) ≤ 60 := by omega
  go_enter Tryz.func23, Tryz.ntmps23
  go_wp2_with fail
  go_loopg [4] L.length (fun gh i wr => ∃ (k : Nat), i = .int .i64 k ∧ k + gh = L.length ∧ Hid (∀ e ∈ (eds L).take k, e.2.2 ≤ 10) ∧ Hid (Ext w wr))
  case atStart => exact ⟨0, by go_num, by omega, (by intro e he; simp at he), Ext.refl _⟩
  case round =>
    obtain ⟨k, rfl, hk, hA, hX⟩ := hrel
    by_cases hlt : k < L.length
    case neg =>
      have hB : Hid (fewB (eds L) = true) := by
        show _ = _
        rw [fewB_iff]
        exact ⟨by omega, fun e he => hA.out e (by rw [List.take_of_length_le (by omega)]; exact he)⟩
      have hltb : decide ((k : Int) < (L.length : Int)) = false := decide_eq_false (by omega)
      go_wp2_with fail
      go_returns
      exact ⟨by rw [hB.out]; first | rfl | simp, hX.out⟩
    obtain ⟨⟨u, q, a, d⟩, hd⟩ : ∃ p, L[k]? = some p := ⟨_, List.getElem?_eq_getElem hlt⟩
    obtain ⟨A', cap', e', -, -, hat⟩ := ew_form (hC'.out.ext hX.out)
    simp only [Value.slice.injEq] at e'
    obtain ⟨rfl, -, rfl⟩ := e'
    obtain ⟨b, o, rfl, -, hbl, c0, c1, c2⟩ := hat k _ hd
    simp only at c2
    have hde : (eds L)[k]? = some (q, a, d) := by rw [List.getElem?_map, hd]; rfl
    haveI : In b wr := ⟨hbl⟩
    by_cases hd0 : 10 < d
    · have hB : Hid (fewB (eds L) = false) := by
        show _ = _
        unfold fewB
        rw [Bool.and_eq_false_iff]
        refine .inr ?_
        rw [List.all_eq_false]
        exact ⟨_, List.mem_of_getElem? hde, by simp; omega⟩
      clear hat hd hde c0 c1
      go_wp2_with fail
      go_returns
      exact ⟨by rw [hB.out]; first | rfl | simp, hX.out⟩
    · have hA2 : Hid (∀ e ∈ (eds L).take (k + 1), e.2.2 ≤ 10) := fun e he => by
        rw [List.take_add_one, hde] at he
        rcases List.mem_append.1 he with he | he
        · exact hA.out e he
        · obtain rfl := List.mem_singleton.1 he
          simp; omega
      clear hat hd hde c0 c1
      go_wp2_with fail
      go_roundg (L.length - (k + 1))
      case measure => omega
      case rel => exact ⟨k + 1, by go_num, by omega, hA2, hX⟩
set_option maxHeartbeats 8000000 in
set_option maxRecDepth 100000 in
theorem hopParts_walk (L : List Ve) (s hp f r : Int) (v : Value) (w : World) (hC : Ew w [] v L) : Calls Tryz.prog 8 #[v, .int .i64 s, .int .i64 hp, .int .i64 f, .int .i64 r] w fun e w' => e = .returned (.bool true) ∧ Ext w w' := by
  have hl := hide (fun w => hopLive_c w)
  have hfw := hide (fun w' (hX : Ext w w') => hfew_c L v w' (hC.ext hX))
  have hcu := hide (fun w' (hX : Ext w w') => hpParts_c L s hp f r v w' (hC.ext hX))
  have hre := hide (fun (h : fewB (eds L) = true) w' (hX : Ext w w') => refHpParts_c L h s hp f r v w' (hC.ext hX))
  obtain ⟨A, cap, rfl, hlc, hlm, -⟩ := ew_form hC
  unfold maxLen at hlm
  clear hC
  obtain ⟨E, hE⟩ : ∃ E, E = hpE (eds L) s hp f r := ⟨_, rfl⟩
  obtain ⟨c, hc⟩ : ∃ c, c = hpL (eds L) s hp f r := ⟨_, rfl⟩
  rw [← hE, ← hc] at hcu hre
  replace hE := hide hE
  replace hc := hide hc
  have hEE : (E == E) = true := by simp
  cases h60 : fewB (eds L)
  · rw [h60] at hfw
    clear h60 hre
    go_enter Tryz.func8, Tryz.ntmps8
    go_wp2_with (first | (go_at_call 23; (with_reducible refine seq_gw (hfw.out _ (Ext.refl _)) ?_); intro g) | (go_at_call 24; (with_reducible refine seq_gw' (hl.out _) ?_); intro g2))
    go_returns
    exact ⟨by first | rfl | simp, g2.grown⟩
  rw [h60] at hfw
  have hre := hide (hre.out h60)
  clear h60
  go_enter Tryz.func8, Tryz.ntmps8
  go_wp2_with (first | (go_at_call 23; (with_reducible refine seq_gw (hfw.out _ (Ext.refl _)) ?_); intro g) | (go_at_call 25; refine (hcu.out _ g.grown).mono ?_; rintro ee w4 ⟨v4, P4, rfl, hP4, ho4, hx4⟩; have hx5 := hide (g.grown.trans hx4); have hQ4 := hide hP4; have ho5 := hide ho4; obtain ⟨A4, c4, q4⟩ := ho4.form; subst q4; clear ho4 hx4 hP4) | (go_at_call 26; refine (hre.out _ hx5.out).mono ?_; rintro ee w6 ⟨v6, P6, rfl, hP6, hz6, hx6⟩; have hx7 := hide (hx5.out.trans hx6); have hQ6 := hide hP6; have hz7 := hide hz6; have ho7 := hide (ho5.out.ext hx6); obtain ⟨A6, c6, q6, -, -, -⟩ := pw_form hz6; subst q6; clear hz6 hx6 hP6) | (go_at_call 24; (with_reducible refine seq_gw (hl.out _) ?_); intro g8) | (go_at_call 18; (with_reducible refine seq_gw (refSameParts_c P4 P6 (hQ4.out.trans hQ6.out.symm) _ _ _ (ho7.out.ext g8.grown).pw (hz7.out.ext g8.grown)) ?_); intro g9))
  go_returns
  exact ⟨by first | rfl | simp, (hx7.out.trans g8.grown).trans g9.grown⟩
end Go.Proofs.YtljkneajdndgjaaGreat
