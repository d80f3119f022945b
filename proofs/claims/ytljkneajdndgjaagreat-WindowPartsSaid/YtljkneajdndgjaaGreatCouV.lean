/-
  A helper of ours: no claim of its own. Layer 29 (counts): the windows and their rows, by the document; and the walk of the law CountsParts.
-/
import Derived.Test.YtljkneajdndgjaaGreatCouX
import Derived.Test.YtljkneajdndgjaaGreatSnaH
set_option linter.unusedVariables false
set_option linter.unusedSimpArgs false
namespace Go.Proofs.YtljkneajdndgjaaGreat
open Go.RowKit
attribute [local go_sem] GW.cell GW.frozen In.eq_true In.le_true In.ne In.ne' In.ne_add In.ne_add' In.lt_add Upto.le_true Upto.le_add Upto.lt_add
/-- What begins in a window, jump by jump. -/
def dsN (J : List Jp) (a b : Int) : Int := ((J.filter fun j => decide (0 < j.2) && (decide (a ≤ j.1) && decide (j.1 ≤ b))).map Prod.snd).sum
theorem dsN_next {J : List Jp} {k : Nat} {j : Jp} (h : J[k]? = some j) (a b : Int) : dsN (J.take (k + 1)) a b = dsN (J.take k) a b + (if 0 < j.2 ∧ a ≤ j.1 ∧ j.1 ≤ b then j.2 else 0) := by
  unfold dsN
  rw [List.take_add_one, h, Option.toList_some, List.filter_append, List.map_append, List.sum_append]
  congr 1
  by_cases h0 : 0 < j.2 <;> by_cases h1 : a ≤ j.1 <;> by_cases h2 : j.1 ≤ b <;> simp [h0, h1, h2]
theorem dsN_beg (J : List Jp) {a : Int} (ha : 0 ≤ a) (b : Int) : dsN J a b = begN J a (b + 1) := by
  unfold dsN begN begS incL
  rw [List.filter_filter]
  congr 2
  refine List.filter_congr fun j _ => ?_
  by_cases h0 : 0 < j.2 <;> by_cases h1 : a ≤ j.1 <;> by_cases h2 : j.1 ≤ b <;> simp [h0, h1, h2] <;> omega
theorem dsN_in {J : List Jp} (hb : ∀ j ∈ J, j.2 ≤ 1048576) (a b : Int) : ∀ k, k ≤ J.length → 0 ≤ dsN (J.take k) a b ∧ dsN (J.take k) a b ≤ 1048576 * k
  | 0, _ => by simp [dsN]
  | k + 1, h => by
    obtain ⟨j, hj⟩ : ∃ j, J[k]? = some j := ⟨_, List.getElem?_eq_getElem (by omega)⟩
    have h1 := dsN_in hb a b k (by omega)
    have h2 := hb j (List.mem_of_getElem? hj)
    rw [dsN_next hj]
    split <;> omega
/-- The rows of a window, row by row. -/
def cgR (l : List Ed) (R : List (List Vl)) (s : Int × Int) : List Cp := (R.filter fun r => decide (0 < begN (jmps l r) s.1 s.2)).map fun r => (r, begN (jmps l r) s.1 s.2)
theorem cgR_next {R : List (List Vl)} {k : Nat} {r : List Vl} (h : R[k]? = some r) (l : List Ed) (s : Int × Int) : cgR l (R.take (k + 1)) s = cgR l (R.take k) s ++ (if 0 < begN (jmps l r) s.1 s.2 then [(r, begN (jmps l r) s.1 s.2)] else []) := by
  unfold cgR
  rw [List.take_add_one, h, Option.toList_some, List.filter_append, List.map_append]
  congr 1
  by_cases c : 0 < begN (jmps l r) s.1 s.2 <;> simp [c]
/-- The windows from a tick on. -/
theorem cwS_from {D : List Int} (hD : D.Pairwise (· < ·)) {n : Nat} (hn : 1 ≤ n) (t : Int) : (cwS D n).filter (fun s => decide (t ≤ s.1)) = cwS (D.drop (sbN D t)) n := by
  have hl := sbN_le D t
  unfold cwS
  rw [List.filter_map, List.length_drop]
  have e : (List.range (D.length + 1 - n)).filter ((fun s : Int × Int => decide (t ≤ s.1)) ∘ fun i => (D.getD i 0, D.getD (i + n - 1) 0 + 1)) = (List.range (D.length - sbN D t + 1 - n)).map fun i => sbN D t + i := by
    refine asc_unique (R := (· < · : Nat → Nat → Prop)) (fun a h => by omega) (fun a b h1 h2 => by omega) _ _ (List.pairwise_lt_range.sublist List.filter_sublist) (List.pairwise_map.2 (List.pairwise_lt_range.imp fun h => by omega)) fun x => ?_
    simp only [List.mem_filter, List.mem_range, List.mem_map, Function.comp, decide_eq_true_eq]
    constructor
    · rintro ⟨h1, h2⟩
      have h3 := asc_at (T := t) hD (i := x) (by omega)
      have h4 : ¬ x < sbN D t := fun k => by have := h3.2 k; omega
      exact ⟨x - sbN D t, by omega, by omega⟩
    · rintro ⟨i, h1, rfl⟩
      have h3 := asc_at (T := t) hD (i := sbN D t + i) (by omega)
      exact ⟨by omega, by have : ¬ D.getD (sbN D t + i) 0 < t := fun k => by have := h3.1 k; omega
                          omega⟩
  rw [e, List.map_map]
  refine List.map_congr_left fun i hi => ?_
  have hi := List.mem_range.1 hi
  have g : ∀ k, D.getD (sbN D t + k) 0 = (D.drop (sbN D t)).getD k 0 := fun k => by
    rw [List.getD_eq_getElem?_getD, List.getD_eq_getElem?_getD, List.getElem?_drop]
  simp only [Function.comp]
  rw [← g i, ← g (i + n - 1), show sbN D t + (i + n - 1) = sbN D t + i + n - 1 by omega]
def cwF (l : List Ed) (S : List (Int × Int)) (t : Int) : List Pt := (S.filter fun s => decide (t ≤ s.1)).map fun s => (s, cfR (grp l) s)
theorem cwF_next {S : List (Int × Int)} {k : Nat} {s : Int × Int} (h : S[k]? = some s) (l : List Ed) (t : Int) : cwF l (S.take (k + 1)) t = cwF l (S.take k) t ++ (if t ≤ s.1 then [(s, cfR (grp l) s)] else []) := by
  unfold cwF
  rw [List.take_add_one, h, Option.toList_some, List.filter_append, List.map_append]
  congr 1
  by_cases c : t ≤ s.1 <;> simp [c]
set_option maxHeartbeats 16000000 in
set_option maxRecDepth 100000 in
theorem refCtParts_c (L : List Ve) (hLs : L.length ≤ 60) (n t : Int) (v : Value) (w : World) (hC : Ew w [] v L) : Calls Tryz.prog 43 #[v, .int .i64 n, .int .i64 t] w fun e w' => ∃ v' P, e = .returned (.tuple #[v', .int .i64 (cpE (eds L) n t)]) ∧ pts P = cpL (eds L) n t ∧ Pw w' [] v' P ∧ Ext w w' := by
  have h1 := hide (fun w' (hX : Ext w w') => ccheck_c L n v w' (hC.ext hX))
  have h2 := hide (fun w' (hX : Ext w w') => refStarts_c L (by omega) v w' (hC.ext hX))
  have h3 := hide (fun w' => srefTick_c t w')
  have hst := ssE_ck (eds L) n t
  have hC' := hide hC
  obtain ⟨A, cap, rfl, hlc, hlm, -⟩ := ew_form hC
  unfold maxLen at hlm
  clear hC
  obtain ⟨E, hE⟩ : ∃ E, E = ckE (eds L) n := ⟨_, rfl⟩
  rw [← hE] at h1 hst
  by_cases hE0 : E = 0
  case neg =>
    rw [if_neg hE0] at hst
    have e1 : cpE (eds L) n t = E := by unfold cpE; rw [hst, if_neg hE0]
    have e2 : cpL (eds L) n t = [] := by unfold cpL; rw [e1, if_neg hE0]
    rw [e1, e2]
    have hb : (E != 0) = true := by simpa using hE0
    replace hE := hide hE
    clear e1 e2 hst h2 h3
    go_enter Tryz.func43, Tryz.ntmps43
    go_wp2_with (go_at_call 90; (with_reducible refine seq_gw (h1.out _ (Ext.refl _)) ?_); intro g)
    go_returns
    exact ⟨_, [], rfl, rfl, ⟨Sl.nil _ _ _, by simp⟩, g.grown⟩
  subst hE0
  rw [if_pos rfl] at hst
  cases ht : stick t
  · rw [ht, if_neg (by decide)] at hst
    have e1 : cpE (eds L) n t = 13 := by unfold cpE; rw [hst, if_neg (by decide)]
    have e2 : cpL (eds L) n t = [] := by unfold cpL; rw [e1, if_neg (by decide)]
    rw [e1, e2]
    rw [ht] at h3
    replace hE := hide hE
    clear e1 e2 hst h2 ht
    go_enter Tryz.func43, Tryz.ntmps43
    go_wp2_with (first | (go_at_call 90; (with_reducible refine seq_gw (h1.out _ (Ext.refl _)) ?_); intro g) | (go_at_call 63; (with_reducible refine seq_gw' (h3.out _) ?_); intro g3))
    go_returns
    exact ⟨_, [], rfl, rfl, ⟨Sl.nil _ _ _, by simp⟩, g3.grown⟩
  rw [ht, if_pos rfl] at hst
  rw [ht] at h3
  obtain ⟨⟨n1, n2⟩, ⟨hm, htb⟩, t1, t2⟩ := ssE_ok hst
  obtain ⟨m, hmn⟩ : ∃ m : Nat, n = (m : Int) + 1 := ⟨n.toNat - 1, by omega⟩
  have hnm : n.toNat = m + 1 := by omega
  have hm1 : n ≤ (m : Int) + 1 := by omega
  have hm2 : (m : Int) + 1 ≤ n := by omega
  have hcs : csE (eds L) = 0 := by unfold csE; rw [if_pos hm, if_pos htb]
  have hcl : csL (eds L) = csT (eds L) := by unfold csL; rw [if_pos hcs]
  rw [hcs, hcl] at h2
  have hDl : (csT (eds L)).length ≤ 60 := by have := stP_len (eds L); rw [stP_eq hm] at this; rw [show (eds L).length = L.length from List.length_map _] at this; omega
  have hDa := csT_asc (eds L)
  have hDin : Hid (∀ x ∈ csT (eds L), 0 ≤ x ∧ x < 1125899906842624) := fun x hx => csT_in hm hx
  have hEE : cpE (eds L) n t = 0 := by
    have hlen : (cpD (eds L) t).length ≤ 60 := by unfold cpD; rw [List.length_drop]; omega
    unfold cpE
    rw [if_pos hst, if_neg (by omega)]
  have hLL : cpL (eds L) n t = cwF (eds L) (cwS (csT (eds L)) (m + 1)) t := by
    unfold cpL cpT cwF cpD
    rw [if_pos hEE, cwS_from hDa (by omega), hnm]
  rw [hEE, hLL]
  have hr1 := hide (fun w' (hX : Ext w w') => refRows_c L _ w' (hC'.out.ext hX) (mayE_rise hm).1 (by omega))
  have hju := hide (fun r x w' (hX : Ext w w') (hr : Rw w [] x r) => refJumps_c L r _ x w' (hC'.out.ext hX) (Sl.ext hr hX) (by omega))
  have hmr := hide (fun r => mayJ_jmps hm r)
  have hcg := hide (fun s => (cfR_rows hm s : cfR (grp (eds L)) s = cgR (eds L) (rowsL (eds L)) s))
  have hrl : (rowsL (eds L)).length ≤ 60 := by have := rowsL_len (eds L) (mayE_rise hm).1; rw [show (eds L).length = L.length from List.length_map _] at this; omega
  obtain ⟨D, hD⟩ : ∃ D, D = csT (eds L) := ⟨_, rfl⟩
  rw [← hD] at hDl hDa hDin h2
  rw [← hD]
  obtain ⟨S, hS⟩ : ∃ S, S = cwS D (m + 1) := ⟨_, rfl⟩
  have hSl : S.length = D.length + 1 - (m + 1) := by rw [hS, cwS_len]
  have hSat : Hid (∀ k x y, D[k]? = some x → D[k + m]? = some y → S[k]? = some (x, y + 1)) := fun k x y hx hy => by
    have hyl := (List.getElem?_eq_some_iff.1 hy).1
    rw [hS]
    unfold cwS
    rw [List.getElem?_map, List.getElem?_range (by omega)]
    simp only [Option.map_some, List.getD_eq_getElem?_getD]
    rw [show k + (m + 1) - 1 = k + m by omega, hx, hy]
    rfl
  rw [← hS]
  replace hE := hide hE
  replace hDa := hide hDa
  replace hS := hide hS
  clear hst ht hm htb hcs hcl hD hEE hLL hmn hnm
  go_enter Tryz.func43, Tryz.ntmps43
  go_wp2_with (first | (go_at_call 90; (with_reducible refine seq_gw (h1.out _ (Ext.refl _)) ?_); intro g) | (go_at_call 63; (with_reducible refine seq_gw' (h3.out _) ?_); intro g3) | (go_at_call 91; refine (h2.out _ g3.grown).mono ?_; rintro ee w4 ⟨v4, rfl, hz4, hX4⟩; have hz5 := hide hz4; have hX5 := hide (g3.grown.trans hX4); obtain ⟨A4, dcap, q4, -, -, -⟩ := zw_form hz4; subst q4; clear hz4 hX4) | (go_at_call 64; refine (hr1.out _ hX5.out).mono ?_; rintro ee w5 ⟨v5, M, rfl, hM, ho5, hin, hY⟩; have hM' := hide hM; have ho6 := hide ho5; have hin6 := hide hin; have hX6 := hide (hX5.out.trans hY); have hz6 := hide (Sl.ext hz5.out hY); obtain ⟨RA, rc1, q5⟩ := own_form ho5; subst q5; clear hM hin ho5 hY))
  have hMl : M.length ≤ 60 := by have h1 := congrArg List.length hM'.out; rw [List.length_map] at h1; omega
  have hz0 := hide (show (w5.alloc (.cells #[] 52)).ownsRow w5.heap.size 52 3 (.slice (some ⟨w5.heap.size, 0, none⟩) 0 0) 0 [] from World.ownsRow_lit (base := w5.heap.size) (e := 52) (size := 3) w5 #[] 0 (Nat.le_refl _) (by decide) rfl)
  have hX7 := hide (show Ext w5 (w5.alloc (.cells #[] 52)) from (Ext.refl _).alloc _)
  have hzw5 := hX6.out.size
  clear h1 h2 h3
  go_loopg [12, 13] (D.length + 1) (fun gh u i wr => ∃ (k : Nat) (P : List Vp), i = .int .i64 k ∧ k + gh = D.length + 1 ∧ k ≤ S.length ∧ Hid (wr.ownsRow w5.heap.size 52 3 u P.length (pt P) ∧ ∀ p ∈ P, DC L wr w5.heap.size p.1 p.2.2) ∧ Hid (pts P = cwF (eds L) (S.take k) t) ∧ P.length ≤ k ∧ Hid (Ext w5 wr))
  case atStart => exact ⟨0, [], by go_num, by omega, by omega, ⟨hz0.out, by intro p hp; cases hp⟩, rfl, by simp, hX7.out⟩
  case round =>
    clear hz0 hX7
    obtain ⟨k, P, rfl, hk, hkS, hO, hpt, hPl, hX⟩ := hrel
    obtain ⟨PA, pcap, rfl⟩ := own_form hO.out.1
    by_cases hkm : k + m < D.length
    · have hlt : k < D.length := by omega
      obtain ⟨x, hx⟩ : ∃ x, D[k]? = some x := ⟨_, List.getElem?_eq_getElem hlt⟩
      obtain ⟨y, hy⟩ : ∃ y, D[k + m]? = some y := ⟨_, List.getElem?_eq_getElem hkm⟩
      have hxb := hDin.out x (List.mem_of_getElem? hx)
      have hyb := hDin.out y (List.mem_of_getElem? hy)
      obtain ⟨A', cp', e', -, -, hat⟩ := zw_form (Sl.ext hz6.out hX.out)
      simp only [Value.slice.injEq] at e'
      obtain ⟨rfl, -, rfl⟩ := e'
      obtain ⟨bk, o, rfl, -, hbl, c0⟩ := hat k x hx
      obtain ⟨b', o', e', -, -, c1⟩ := hat (k + m) y hy
      simp only [Option.some.injEq, Addr.mk.injEq] at e'
      obtain ⟨rfl, rfl, -⟩ := e'
      haveI : In bk wr := ⟨hbl⟩
      have q0 := hide c0
      have q1 := hide c1
      have hnx := hide (cwF_next (hSat.out k x y hx hy) (eds L) t)
      have hx' := hide hx
      have hy' := hide hy
      have hkn : (k : Int) + n ≤ (D.length : Int) := by omega
      have hk3 : (0 : Int) ≤ (k : Int) + (m : Int) := by omega
      have hk4 : (k : Int) + (m : Int) < (D.length : Int) := by omega
      clear hat hx hy c1
      by_cases hxt : x < t
      · rw [if_neg (by simp only; omega), List.append_nil] at hnx
        go_wp2_with fail
        go_roundg (D.length + 1 - (k + 1))
        case measure => omega
        case rel => exact ⟨k + 1, P, by go_num, by omega, by omega, hO.out, (by show _ = _; rw [hnx.out]; exact hpt.out), by omega, hX⟩
      · rw [if_pos (by simp only; omega)] at hnx
        go_upto_region 13 with (fail)
        clear c0
        refine wp_region_list_tail 15 [(.is ((.slice (some ⟨bk, o, none⟩) D.length dcap))), (.is ((.int .i64 k))), (.is ((.pointer (some ⟨bk, o + k, none⟩)))), (.is ((.int .i64 x))), (.is ((.slice (some ⟨bk, o, none⟩) D.length dcap))), (.is ((.int .i64 k))), (.is ((.int .i64 n))), (.is ((.int .i64 ((k + m + 1 : Nat) : Int)))), (.is ((.int .i64 ((k + m : Nat) : Int)))), (.is ((.pointer (some ⟨bk, o + (k + m), none⟩)))), (.is ((.int .i64 y))), (.is ((.int .i64 (y + 1)))), (.is ((.agg #[.int .i64 x, .int .i64 (y + 1)]))), (.is ((.agg #[.int .i64 x, .int .i64 (y + 1), .slice none 0 0]))), (.st (ptP wr.heap.size) (fun _ _ _ h k => h.ext k))] (by kernel_rfl) (by kernel_rfl) (by kernel_rfl) (by kernel_rfl) (by kernel_rfl) (by kernel_rfl) (by kernel_rfl) ?_ ?_
        · refine ⟨?_, ?_, ?_, ?_, ?_, ?_, ?_, ?_, ?_, ?_, ?_, ?_, ?_, ?_, ?_, trivial⟩
          · intro b w' h hE
            have f9 : b.tmps.getD 9 undef = (.slice (some ⟨bk, o, none⟩) D.length dcap) := hE 9 (of_decide_eq_true (by kernel_rfl))
            exact good_move (wanted_none rfl) rfl f9
          · intro b w' h hE
            have f13 : b.tmps.getD 13 undef = (.int .i64 k) := hE 13 (of_decide_eq_true (by kernel_rfl))
            exact good_move (wanted_none rfl) rfl f13
          · intro b w' h hE
            have f50 : b.tmps.getD 50 undef = (.slice (some ⟨bk, o, none⟩) D.length dcap) := h.dep 0 _ 50 (by kernel_rfl) rfl rfl
            have f51 : b.tmps.getD 51 undef = (.int .i64 k) := h.dep 1 _ 51 (by kernel_rfl) rfl rfl
            exact good_index (wanted_none rfl) rfl f50 f51 (by simp [go_sem, hlt, hkm, hk3, hk4]) rfl
          · intro b w' h hE
            have f52 : b.tmps.getD 52 undef = (.pointer (some ⟨bk, o + k, none⟩)) := h.dep 2 _ 52 (by kernel_rfl) rfl rfl
            have c0 := cell_later h.ext q0.out
            exact good_load (wanted_none rfl) rfl f52 (by simp [go_sem, c0]) rfl
          · intro b w' h hE
            have f9 : b.tmps.getD 9 undef = (.slice (some ⟨bk, o, none⟩) D.length dcap) := hE 9 (of_decide_eq_true (by kernel_rfl))
            exact good_move (wanted_none rfl) rfl f9
          · intro b w' h hE
            have f13 : b.tmps.getD 13 undef = (.int .i64 k) := hE 13 (of_decide_eq_true (by kernel_rfl))
            exact good_move (wanted_none rfl) rfl f13
          · intro b w' h hE
            have f1 : b.tmps.getD 1 undef = (.int .i64 n) := hE 1 (of_decide_eq_true (by kernel_rfl))
            exact good_move (wanted_none rfl) rfl f1
          · intro b w' h hE
            have f55 : b.tmps.getD 55 undef = (.int .i64 k) := h.dep 5 _ 55 (by kernel_rfl) rfl rfl
            have f56 : b.tmps.getD 56 undef = (.int .i64 n) := h.dep 6 _ 56 (by kernel_rfl) rfl rfl
            exact good_bin (wanted_none rfl) rfl f55 f56 (by rfl) (run_add_i64 Tryz.underlying3 _ _ _ (by omega) (by omega) _) rfl
          · intro b w' h hE
            have f57 : b.tmps.getD 57 undef = (.int .i64 ((k + m + 1 : Nat) : Int)) := h.dep 7 _ 57 (by kernel_rfl) rfl rfl
            exact good_bin (wanted_none rfl) rfl f57 rfl (by rfl) (run_sub_i64 Tryz.underlying3 _ _ _ (by omega) (by omega) _) rfl
          · intro b w' h hE
            have f54 : b.tmps.getD 54 undef = (.slice (some ⟨bk, o, none⟩) D.length dcap) := h.dep 4 _ 54 (by kernel_rfl) rfl rfl
            have f58 : b.tmps.getD 58 undef = (.int .i64 ((k + m : Nat) : Int)) := h.dep 8 _ 58 (by kernel_rfl) rfl rfl
            exact good_index (wanted_none rfl) rfl f54 f58 (by simp [go_sem, hlt, hkm, hk3, hk4]) rfl
          · intro b w' h hE
            have f59 : b.tmps.getD 59 undef = (.pointer (some ⟨bk, o + (k + m), none⟩)) := h.dep 9 _ 59 (by kernel_rfl) rfl rfl
            have c0 := cell_later h.ext q1.out
            exact good_load (wanted_none rfl) rfl f59 (by simp [go_sem, c0]) rfl
          · intro b w' h hE
            have f60 : b.tmps.getD 60 undef = (.int .i64 y) := h.dep 10 _ 60 (by kernel_rfl) rfl rfl
            exact good_bin (wanted_none rfl) rfl f60 rfl (by rfl) (run_add_i64 Tryz.underlying3 _ _ _ rfl (by omega) _) rfl
          · intro b w' h hE
            have f53 : b.tmps.getD 53 undef = (.int .i64 x) := h.dep 3 _ 53 (by kernel_rfl) rfl rfl
            have g53 : b.tmps[53]?.getD undef = (.int .i64 x) := by rw [← Array.getD_eq_getD_getElem?]; exact f53
            have f61 : b.tmps.getD 61 undef = (.int .i64 (y + 1)) := h.dep 11 _ 61 (by kernel_rfl) rfl rfl
            have g61 : b.tmps[61]?.getD undef = (.int .i64 (y + 1)) := by rw [← Array.getD_eq_getD_getElem?]; exact f61
            exact good_run (wanted_none rfl) (by simp [execOp, Act.eval, go_sem, g53, g61, Sem.run_bind, Sem.run_pure, Result.andThen_ok]) rfl
          · intro b w' h hE
            have f62 : b.tmps.getD 62 undef = (.agg #[.int .i64 x, .int .i64 (y + 1)]) := h.dep 12 _ 62 (by kernel_rfl) rfl rfl
            have g62 : b.tmps[62]?.getD undef = (.agg #[.int .i64 x, .int .i64 (y + 1)]) := by rw [← Array.getD_eq_getD_getElem?]; exact f62
            exact good_run (wanted_none rfl) (by simp [execOp, Act.eval, go_sem, g62, Sem.run_bind, Sem.run_pure, Result.andThen_ok]) rfl
          · intro b w' h hE
            exact good_grow (w' := w'.alloc (.cells #[.int .i64 0, .int .i64 0, .slice none 0 0] 52)) (v := .pointer (some ⟨w'.heap.size, 0, none⟩)) (wanted_none rfl) (by simp [execOp, go_sem, Sem.run_bind, Sem.run_pure, Result.andThen_ok]) ⟨_, rfl, h.ext.size, Ob.new w' _ [_, _, _]⟩ ((Ext.refl _).alloc _)
        · intro b w2 hX2 hd hz he' hf
          have e50 : b.tmps.getD 50 undef = (.slice (some ⟨bk, o, none⟩) D.length dcap) := hf 0 _ 50 (by omega) rfl rfl
          have e51 : b.tmps.getD 51 undef = (.int .i64 k) := hf 1 _ 51 (by omega) rfl rfl
          have e52 : b.tmps.getD 52 undef = (.pointer (some ⟨bk, o + k, none⟩)) := hf 2 _ 52 (by omega) rfl rfl
          have e53 : b.tmps.getD 53 undef = (.int .i64 x) := hf 3 _ 53 (by omega) rfl rfl
          have e54 : b.tmps.getD 54 undef = (.slice (some ⟨bk, o, none⟩) D.length dcap) := hf 4 _ 54 (by omega) rfl rfl
          have e55 : b.tmps.getD 55 undef = (.int .i64 k) := hf 5 _ 55 (by omega) rfl rfl
          have e56 : b.tmps.getD 56 undef = (.int .i64 n) := hf 6 _ 56 (by omega) rfl rfl
          have e57 : b.tmps.getD 57 undef = (.int .i64 ((k + m + 1 : Nat) : Int)) := hf 7 _ 57 (by omega) rfl rfl
          have e58 : b.tmps.getD 58 undef = (.int .i64 ((k + m : Nat) : Int)) := hf 8 _ 58 (by omega) rfl rfl
          have e59 : b.tmps.getD 59 undef = (.pointer (some ⟨bk, o + (k + m), none⟩)) := hf 9 _ 59 (by omega) rfl rfl
          have e60 : b.tmps.getD 60 undef = (.int .i64 y) := hf 10 _ 60 (by omega) rfl rfl
          have e61 : b.tmps.getD 61 undef = (.int .i64 (y + 1)) := hf 11 _ 61 (by omega) rfl rfl
          have e62 : b.tmps.getD 62 undef = (.agg #[.int .i64 x, .int .i64 (y + 1)]) := hf 12 _ 62 (by omega) rfl rfl
          have e63 : b.tmps.getD 63 undef = (.agg #[.int .i64 x, .int .i64 (y + 1), .slice none 0 0]) := hf 13 _ 63 (by omega) rfl rfl
          have f14 : ptP wr.heap.size (b.tmps.getD 14 undef) w2 := hf 14 _ 14 (by omega) rfl rfl
          have e := frame_puts hd hz he'
          obtain ⟨X, hXx⟩ : ∃ X : Nat → Value, ∀ d, b.tmps.getD d undef = X d := ⟨_, fun _ => rfl⟩
          rw [hXx] at e50 e51 e52 e53 e54 e55 e56 e57 e58 e59 e60 e61 e62 e63 f14
          obtain ⟨pb, q14, hpge, hpb0⟩ := f14
          rw [show dstsOf _ = [50, 51, 52, 53, 54, 55, 56, 57, 58, 59, 60, 61, 62, 63, 14] from rfl] at e
          simp only [List.foldl_cons, List.foldl_nil, hXx, Act.put, List.setIfInBounds_toArray, List.set_cons_succ, List.set_cons_zero] at e
          rw [e50, e51, e52, e53, e54, e55, e56, e57, e58, e59, e60, e61, e62, e63, q14] at e
          clear hf he' hz hd hXx e50 e51 e52 e53 e54 e55 e56 e57 e58 e59 e60 e61 e62 e63 q14
          subst e
          have hzw := hX2.size
          simp only [List.drop_succ_cons, List.drop_zero]
          have hlp := hpb0.lt
          have i9 : In pb w2 := ⟨hlp⟩
          have z0 := hpb0.cell 0 rfl
          have z1 := hpb0.cell 1 rfl
          have z2 := hpb0.cell 2 rfl
          have y0 := hpb0.free 0
          have y1 := hpb0.free 1
          have y2 := hpb0.free 2
          go_upto_region 14 with (fail)
          have hb5 : Ob (((w2.setCell ⟨pb, 0, none⟩ (.int .i64 x)).setCell ⟨pb, 1, none⟩ (.int .i64 (y + 1))).setCell ⟨pb, 2, none⟩ (.slice none 0 0)) pb 52 [.int .i64 x, .int .i64 (y + 1), .slice none 0 0] := ((hpb0.set 0 _).set 1 _).set 2 _
          have hX5 : Ext wr (((w2.setCell ⟨pb, 0, none⟩ (.int .i64 x)).setCell ⟨pb, 1, none⟩ (.int .i64 (y + 1))).setCell ⟨pb, 2, none⟩ (.slice none 0 0)) := ((hX2.setCell (p := ⟨pb, 0, none⟩) hpge _).setCell (p := ⟨pb, 1, none⟩) hpge _).setCell (p := ⟨pb, 2, none⟩) hpge _
          generalize ((w2.setCell ⟨pb, 0, none⟩ (.int .i64 x)).setCell ⟨pb, 1, none⟩ (.int .i64 (y + 1))).setCell ⟨pb, 2, none⟩ (.slice none 0 0) = W5 at *
          clear z0 z1 z2 y0 y1 y2 hpb0 hX2 i9 hlp hzw
          replace hb5 := hide hb5
          replace hX5 := hide hX5
          replace hpge := hide hpge
          go_wp2_with fail
          generalize wr = W1 at *
          go_loopg [15] M.length (fun gh i wr => ∃ (q : Nat) (C : List Vc) (rv : Value), i = .int .i64 q ∧ q + gh = M.length ∧ Hid (Ob wr pb 52 [.int .i64 x, .int .i64 (y + 1), rv] ∧ DC L wr W1.heap.size rv C) ∧ Hid (cps C = cgR (eds L) ((rowsL (eds L)).take q) (x, y + 1)) ∧ C.length ≤ q ∧ Hid (Ext W1 wr))
          case atStart => exact ⟨0, [], .slice none 0 0, by go_num, by omega, ⟨hb5.out, World.ownsRow_nil _ _ _ _, by simp⟩, rfl, by simp, hX5.out⟩
          case round =>
            clear hb5 hX5
            obtain ⟨q, C, rv, rfl, hq, hB, hcp, hCl, hY⟩ := hrel
            generalize wr = W6 at *
            obtain ⟨CA, ccap, hrv⟩ := own_form hB.out.2.1
            rw [hrv] at hB
            clear hrv
            by_cases hql : q < M.length
            · obtain ⟨⟨xv, r⟩, hd⟩ : ∃ p, M[q]? = some p := ⟨_, List.getElem?_eq_getElem hql⟩
              have hw6 := hX6.out.trans (hX.out.trans hY.out)
              obtain ⟨A', cap', e', -, -, hat⟩ := rs_form (Sl.own (S := []) (own_ext ho6.out (hX.out.trans hY.out)) (by simp))
              simp only [Value.slice.injEq] at e'
              obtain ⟨rfl, -, rfl⟩ := e'
              obtain ⟨b2, o2, rfl, -, hb2l, c0⟩ := hat q _ hd
              simp only at c0
              have hgk : (rowsL (eds L))[q]? = some r := by rw [← hM'.out, List.getElem?_map, hd]; rfl
              have hnx2 := hide (cgR_next hgk (eds L) (x, y + 1))
              have hxq := hin6.out _ (List.mem_of_getElem? hd)
              simp only at hxq
              have hxr : Rw w [] xv r := by
                obtain ⟨p, hp, e1, e2⟩ := hxq
                rw [← e1, ← e2]
                exact hC'.out.2 p hp
              have hmj := hmr.out r
              have hje := hide (hju.out r xv W6 hw6 hxr)
              obtain ⟨J, hJ⟩ : ∃ J, J = jmps (eds L) r := ⟨_, rfl⟩
              rw [← hJ] at hje hmj hnx2
              have hjl : J.length ≤ 1024 := mayJ_len hmj
              have hjn := hide (fun j (hj : j ∈ J) => (mayJ_net hmj j hj))
              replace hJ := hide hJ
              obtain ⟨XA, xcap, rfl⟩ := rw_val hxr
              haveI : In b2 W6 := ⟨hb2l⟩
              have hxq' := hide hxq
              clear hat hd hgk hxr hxq hmj hw6
              go_upto_region 19 with (go_at_call 66; refine hje.out.mono ?_; rintro ee w7 ⟨v7, rfl, ho7, hX7⟩; have hX8 := hide hX7; have c4 := cell_later hX7 c0; have i4 : In b2 w7 := ⟨Nat.lt_of_lt_of_le hb2l hX7.size⟩; have ho8 := hide ho7; obtain ⟨JA, jcap, q7⟩ := own_form ho7; subst q7; clear ho7 hX7)
              have hcb0 : Ob (w7.alloc (.cells #[.slice XA r.length xcap, .int .i64 0] 56)) w7.heap.size 56 [.slice XA r.length xcap, .int .i64 (dsN (J.take 0) x y)] := Ob.new w7 56 [.slice XA r.length xcap, .int .i64 0]
              have hX9 : Ext w7 (w7.alloc (.cells #[.slice XA r.length xcap, .int .i64 0] 56)) := (Ext.refl w7).alloc _
              generalize (w7.alloc (.cells #[.slice XA r.length xcap, .int .i64 0] 56)) = W9 at *
              have hcbg : w7.heap.size ≤ w7.heap.size := Nat.le_refl _
              have hcbl := hcb0.lt
              generalize hcbe : w7.heap.size = cb at hcb0 hcbl ⊢
              replace hcbg : w7.heap.size ≤ cb := by omega
              clear hcbe
              replace hcb0 := hide hcb0
              replace hX9 := hide hX9
              go_wp2_with fail
              go_loopg [18] J.length (fun gh i wr => ∃ (j : Nat), i = .int .i64 j ∧ j + gh = J.length ∧ Hid (Ob wr cb 56 [.slice XA r.length xcap, .int .i64 (dsN (J.take j) x y)]) ∧ Hid (Ext w7 wr))
              case atStart => exact ⟨0, by go_num, by omega, hcb0.out, hX9.out⟩
              case round =>
                clear hcb0 hX9
                obtain ⟨j, rfl, hj, hcb, hV⟩ := hrel
                have hsum := dsN_in (fun j hj => (hjn.out j hj).2) x y j (by omega)
                obtain ⟨sm, hsm⟩ : ∃ sm, sm = dsN (J.take j) x y := ⟨_, rfl⟩
                rw [← hsm] at hsum hcb
                have hcl := hcb.out.lt
                haveI : In cb wr := ⟨hcl⟩
                have n0 := hcb.out.cell 0 rfl
                have n1' := hcb.out.cell 1 rfl
                have n2' := hcb.out.free 1
                by_cases hjl2 : j < J.length
                · obtain ⟨⟨a, d⟩, hjj⟩ : ∃ z, J[j]? = some z := ⟨_, List.getElem?_eq_getElem hjl2⟩
                  have hjd := hjn.out _ (List.mem_of_getElem? hjj)
                  obtain ⟨A', cap', e', -, -, hat⟩ := jw_form (own_jw (S := []) (own_ext ho8.out hV.out) (by simp))
                  simp only [Value.slice.injEq] at e'
                  obtain ⟨rfl, -, rfl⟩ := e'
                  obtain ⟨b3, o3, rfl, -, hb3l, f0, f1⟩ := hat j _ hjj
                  have hn3 := hide (dsN_next hjj x y)
                  have p0 := cell_later (hY.out.trans (hX8.out.trans hV.out)) q0.out
                  have p1 := cell_later (hY.out.trans (hX8.out.trans hV.out)) q1.out
                  simp only at f0 f1 hjd
                  obtain ⟨km, hkme⟩ : ∃ km, km = k + m := ⟨_, rfl⟩
                  rw [← hkme] at p1
                  have hk5 : (k : Int) + n - 1 = (km : Int) := by omega
                  have hk6 : km < D.length := by omega
                  clear hkme
                  haveI : In b3 wr := ⟨hb3l⟩
                  haveI : In bk wr := ⟨block_lt_of_cell p0⟩
                  clear hat hjj
                  have hsm' := hide hsm
                  replace hsm := hsm'
                  clear hsm'
                  by_cases hd0 : 0 < d
                  · by_cases hxa : x ≤ a
                    · by_cases hay : a ≤ y
                      · rw [if_pos ⟨hd0, hxa, hay⟩] at hn3
                        go_wp2_with fail
                        refine wp_region_gw (by kernel_rfl) (by kernel_rfl) ?_
                        repeat (go_big_quiet_step (fail))
                        refine wpQuiet_nil ?_
                        intro g8
                        go_wp2_with fail
                        refine wp_region_gw_tail 9 (by kernel_rfl) (by kernel_rfl) ?_
                        simp only [List.take_succ_cons, List.take_zero, List.drop_succ_cons, List.drop_zero]
                        repeat (go_big_quiet_step (fail))
                        refine wpQuiet_nil ?_
                        intro g9
                        go_wp2_with fail
                        go_roundg (J.length - (j + 1))
                        case measure => omega
                        case rel => exact ⟨j + 1, by go_num, by omega, (by show Ob _ _ _ _; rw [hn3.out, ← hsm.out]; exact ((hcb.out.ext g8.grown).ext g9.grown).set 1 _), ((hV.out.trans g8.grown).trans g9.grown).setCell (p := ⟨cb, 1, none⟩) hcbg _⟩
                      · rw [if_neg (fun z => hay z.2.2)] at hn3
                        go_wp2_with fail
                        refine wp_region_gw (by kernel_rfl) (by kernel_rfl) ?_
                        repeat (go_big_quiet_step (fail))
                        refine wpQuiet_nil ?_
                        intro g8
                        go_wp2_with fail
                        go_roundg (J.length - (j + 1))
                        case measure => omega
                        case rel => exact ⟨j + 1, by go_num, by omega, (by show Ob _ _ _ _; rw [hn3.out, Int.add_zero, ← hsm.out]; exact hcb.out.ext g8.grown), hV.out.trans g8.grown⟩
                    · rw [if_neg (fun z => hxa z.2.1)] at hn3
                      have hxa' : decide (x ≤ a) = false := decide_eq_false hxa
                      go_wp2_with fail
                      refine wp_region_gw (by kernel_rfl) (by kernel_rfl) ?_
                      repeat (go_big_quiet_step (fail))
                      refine wpQuiet_nil ?_
                      intro g8
                      go_wp2_with fail
                      go_roundg (J.length - (j + 1))
                      case measure => omega
                      case rel => exact ⟨j + 1, by go_num, by omega, (by show Ob _ _ _ _; rw [hn3.out, Int.add_zero, ← hsm.out]; exact hcb.out.ext g8.grown), hV.out.trans g8.grown⟩
                  · rw [if_neg (fun z => hd0 z.1)] at hn3
                    have hd0' : decide (0 < d) = false := decide_eq_false hd0
                    go_wp2_with fail
                    refine wp_region_gw (by kernel_rfl) (by kernel_rfl) ?_
                    repeat (go_big_quiet_step (fail))
                    refine wpQuiet_nil ?_
                    intro g8
                    go_wp2_with fail
                    go_roundg (J.length - (j + 1))
                    case measure => omega
                    case rel => exact ⟨j + 1, by go_num, by omega, (by show Ob _ _ _ _; rw [hn3.out, Int.add_zero, ← hsm.out]; exact hcb.out.ext g8.grown), hV.out.trans g8.grown⟩
                · have hje : J.take j = J := List.take_of_length_le (by omega)
                  rw [hje] at hsm
                  rw [dsN_beg J (by omega)] at hsm
                  clear hje
                  have hXY := hX8.out.trans hV.out
                  have hBw := hB.out.1.ext hXY
                  have hDw := hide (hB.out.2.ext hXY)
                  have hbl2 := hBw.lt
                  haveI : In pb wr := ⟨hbl2⟩
                  have m0 := hBw.cell 0 rfl
                  have m1 := hBw.cell 1 rfl
                  have m2 := hBw.cell 2 rfl
                  have m3 := hBw.free 2
                  have hno : pb ∉ ob (.slice CA C.length ccap) := fun hm => (Ob.not_own hBw hDw.out.1 (by decide)) (Option.mem_toList.1 hm)
                  have hBw' := hide hBw
                  have hXW := hide (hY.out.trans hXY)
                  have hzW := hXW.out.size
                  by_cases hs0 : 0 < sm
                  · have hnx3 := hide (show cgR (eds L) ((rowsL (eds L)).take (q + 1)) (x, y + 1) = cgR (eds L) ((rowsL (eds L)).take q) (x, y + 1) ++ [(r, sm)] by rw [hnx2.out, ← hsm, if_pos hs0])
                    replace hsm := hide hsm
                    have hsrc := hide (src_sl Tryz.underlying50 (sl_lit wr 56 2 [.slice XA r.length xcap, .int .i64 sm] rfl) (by intro u hu; simp at hu; rcases hu with rfl | rfl <;> rfl) (by omega))
                    have hbs := hide (own_ext hDw.out.1 ((Ext.refl wr).alloc (.cells #[.slice XA r.length xcap, .int .i64 sm] 56)))
                    have hbz := hide (Nat.le_trans hzW ((Ext.refl wr).alloc (.cells #[.slice XA r.length xcap, .int .i64 sm] 56)).size)
                    have hno' := hide hno
                    clear hBw hXY
                    go_wp2_with (at_builtin; (refine wpl_app tCp rfl (.tmp 133) (.tmp 135) rfl rfl hbs.out rfl hsrc.out (by unfold maxLen; omega) (by omega) hbz.out ?_; intro v8 w8 ho8 hg8 hob8; have ho9 := hide ho8; have hg9 := hide hg8; have hF9 : Fr (ob (.slice CA C.length ccap)) wr w8 := ((Fr.refl _ _).alloc _).grown hg8 (fun j hj => .inl (Option.mem_toList.2 hj)); have hb8 := hBw'.out.fr hF9 hno'.out; have l8 := hb8.lt; (haveI : In pb w8 := ⟨l8⟩); have z2 := hb8.cell 2 rfl; have y2 := hb8.free 2; have hb8' := hide hb8; have hF9' := hide hF9; obtain ⟨A8, c8, q8⟩ := own_form ho8; subst q8; clear ho8 hg8 hob8 hF9 hb8))
                    have hDn : DC L w8 W1.heap.size (.slice A8 (C.length + 1) c8) (C ++ [(.slice XA r.length xcap, (r, sm))]) := by
                      refine ⟨by rw [List.length_append, cc_append]; simpa [cc, cc1] using ho9.out, fun p hp => ?_⟩
                      rcases List.mem_append.1 hp with hp | hp
                      · exact hDw.out.2 p hp
                      · obtain rfl := List.mem_singleton.1 hp
                        exact hxq'.out
                    go_roundg (M.length - (q + 1))
                    case measure => omega
                    case rel =>
                      refine ⟨q + 1, C ++ [(.slice XA r.length xcap, (r, sm))], .slice A8 (C.length + 1) c8, by go_num, by omega, ⟨hb8'.out.set 2 _, hDn.away ((Fr.refl [pb] w8).setCell ⟨pb, 2, none⟩ _ (.inl (by simp))) (fun b hb hm => ?_)⟩, ?_, by simp; omega, (ext_fr hXW.out hF9'.out (fun y hy => (ob_ge hDw.out.1 y hy).1)).setCell (p := ⟨pb, 2, none⟩) hpge.out _⟩
                      · rw [List.mem_singleton] at hb
                        subst hb
                        exact (Ob.not_own hb8'.out hDn.1 (by decide)) (Option.mem_toList.1 hm)
                      · show _ = _
                        rw [hnx3.out, ← hcp.out]
                        simp
                  · have hnx3 := hide (show cgR (eds L) ((rowsL (eds L)).take (q + 1)) (x, y + 1) = cgR (eds L) ((rowsL (eds L)).take q) (x, y + 1) by rw [hnx2.out, ← hsm, if_neg hs0, List.append_nil])
                    replace hsm := hide hsm
                    clear hBw hXY
                    go_wp2_with fail
                    go_roundg (M.length - (q + 1))
                    case measure => omega
                    case rel => exact ⟨q + 1, C, .slice CA C.length ccap, by go_num, by omega, ⟨hBw'.out, hDw.out⟩, (by show _ = _; rw [hnx3.out]; exact hcp.out), by omega, hXW.out⟩
            · have hqe : (rowsL (eds L)).take q = rowsL (eds L) := by
                refine List.take_of_length_le ?_
                have h1 := congrArg List.length hM'.out
                rw [List.length_map] at h1
                omega
              have hcf := hide (show cps C = cfR (grp (eds L)) (x, y + 1) from (hcp.out.trans (congrArg (fun R => cgR (eds L) R (x, y + 1)) hqe)).trans (hcg.out (x, y + 1)).symm)
              clear hqe
              have hbl2 := hB.out.1.lt
              haveI : In pb W6 := ⟨hbl2⟩
              have m0 := hB.out.1.cell 0 rfl
              have m1 := hB.out.1.cell 1 rfl
              have m2 := hB.out.1.cell 2 rfl
              have hO6 := hide (own_ext hO.out.1 hY.out)
              have hzW := hY.out.size
              have hz5 := hX.out.size
              have hsrc := hide (src_sl Tryz.underlying34 (sl_lit W6 52 3 [.int .i64 x, .int .i64 (y + 1), .slice CA C.length ccap] rfl) (by intro u hu; simp only [List.mem_cons, List.not_mem_nil, or_false] at hu; rcases hu with rfl | rfl | rfl <;> rfl) (by omega))
              have hbs := hide (own_ext hO6.out ((Ext.refl W6).alloc (.cells #[.int .i64 x, .int .i64 (y + 1), .slice CA C.length ccap] 52)))
              have hbz := hide (Nat.le_trans (Nat.le_trans hz5 hzW) ((Ext.refl W6).alloc (.cells #[.int .i64 x, .int .i64 (y + 1), .slice CA C.length ccap] 52)).size)
              go_wp2_with (at_builtin; (refine wpl_app tPa rfl (.tmp 138) (.tmp 140) rfl rfl hbs.out rfl hsrc.out (by unfold maxLen; omega) (by omega) hbz.out ?_; intro v8 w8 ho8 hg8 hob8; have ho9 := hide ho8; have hg9 := hide hg8; obtain ⟨A8, c8, q8⟩ := own_form ho8; subst q8; clear ho8 hg8 hob8))
              have hF9 : Fr (ob (.slice PA P.length pcap)) W6 w8 := ((Fr.refl _ _).alloc _).grown hg9.out (fun j hj => .inl (Option.mem_toList.2 hj))
              have hobP := ob_ge hO.out.1
              go_roundg (D.length + 1 - (k + 1))
              case measure => omega
              case rel =>
                refine ⟨k + 1, P ++ [(Value.slice CA C.length ccap, (x, y + 1), C)], by go_num, by omega, by omega, ⟨by rw [List.length_append, pt_append]; simpa [pt, pt1] using ho9.out, fun p hp => ?_⟩, ?_, by simp; omega, ext_fr (hX.out.trans hY.out) hF9 (fun y hy => (hobP y hy).1)⟩
                · rcases List.mem_append.1 hp with hp | hp
                  · exact ((hO.out.2 p hp).ext hY.out).away hF9 (own_far hO6.out ((hO.out.2 p hp).ext hY.out).1 (by decide))
                  · obtain rfl := List.mem_singleton.1 hp
                    exact (DC.base hB.out.2 hz5).away hF9 (own_far hO6.out hB.out.2.1 (by decide))
                · show _ = _
                  rw [hnx.out, ← hpt.out, pts_append]
                  simp [hcf.out]
    · have hfin := hide (show pts P = cwF (eds L) S t by rw [hpt.out, List.take_of_length_le (by omega)])
      have hPI : ¬ (1024 : Int) < (P.length : Int) := by omega
      have hkn : ¬ (k : Int) + n ≤ (D.length : Int) := by omega
      go_wp2_with fail
      go_returns
      exact ⟨_, rfl, P, hfin.out, ⟨Sl.own hO.out.1 (by simp), fun p hp => (hO.out.2 p hp).cw (hC'.out.ext (hX6.out.trans hX.out))⟩, hX6.out.trans hX.out⟩
end Go.Proofs.YtljkneajdndgjaaGreat
