/-
  A helper of ours: no claim of its own. Layer 10 (edge): a row's jumps, by the document.
-/
import Derived.Test.YtljkneajdndgjabGreatReg4
import Derived.Test.YtljkneajdndgjabGreatEdgQ
import Derived.Test.YtljkneajdndgjabGreatEdgGr
set_option linter.unusedVariables false
set_option linter.unusedSimpArgs false
namespace Go.Proofs.YtljkneajdndgjabGreat
open Go.RowKit
attribute [-go_sem] sliced
attribute [local go_sem] sliced_eq
attribute [local go_sem] GW.cell GW.frozen In.eq_true In.le_true In.ne In.ne' In.ne_add In.ne_add' In.lt_add Upto.le_true Upto.le_add Upto.lt_add
theorem tRows : ElemT Tryz.prog 72 33 (.slice none 0 0) 1 24 := ElemT.mk' Tryz.underlying72 (by kernel_rfl) rfl (by omega)
/-- A slice of rows, as it lies; its rows lie elsewhere. -/
abbrev OwnRs (w : World) (base : Nat) (v : Value) (M : List Rv) : Prop := w.ownsRow base 33 1 v M.length (rcs M)
theorem rs_form {w : World} {S : List Nat} {v : Value} {M : List Rv} (h : Sl w S 1 v M.length (rcs M)) : ∃ A cap, v = .slice A M.length cap ∧ M.length ≤ cap ∧ cap ≤ maxLen ∧ ∀ (i : Nat) (p : Rv), M[i]? = some p → ∃ b o, A = some ⟨b, o, none⟩ ∧ b ∉ S ∧ b < w.heap.size ∧ w.cell? ⟨b, o + i, none⟩ = some p.1 := by
  obtain ⟨A, cap, rfl, h1, h2, h3, h4⟩ := h
  refine ⟨A, cap, rfl, h1, h2, fun i p hp => ?_⟩
  have hg : (rcs M)[i]? = some p.1 := by simp [rcs, hp]
  rcases h4 with h4 | ⟨b, o, rfl, hb, hc⟩
  · rw [h4] at hg; cases hg
  · have c0 := hc i _ hg
    exact ⟨b, o, rfl, hb, block_lt_of_cell c0, c0⟩
theorem rcs_one {N : List Rv} (h : ∀ p ∈ N, p.1.oneCell' = true) : ∀ u ∈ rcs N, u.oneCell' = true := by
  intro u hu
  obtain ⟨p, hp, rfl⟩ := List.mem_map.1 hu
  exact h p hp
theorem rcs_take {N : List Rv} (n : Nat) (h : ∀ p ∈ N, p.1.oneCell' = true) : ∀ u ∈ (rcs N).take n, u.oneCell' = true := fun u hu => rcs_one h u (List.mem_of_mem_take hu)
theorem rcs_drop {N : List Rv} (n : Nat) (h : ∀ p ∈ N, p.1.oneCell' = true) : ∀ u ∈ (rcs N).drop n, u.oneCell' = true := fun u hu => rcs_one h u (List.mem_of_mem_drop hu)
theorem own_rs {w : World} {base n : Nat} {v : Value} {M : List Rv} {p : Rv} (hn : n ≤ M.length) (h : w.ownsRow base 33 1 v (0 + n + 1 + (M.length - n)) ((([] ++ (rcs M).take n) ++ [p.1]) ++ (rcs M).drop n)) : OwnRs w base v (M.take n ++ p :: M.drop n) := by
  unfold OwnRs
  have e : (M.take n ++ p :: M.drop n).length = 0 + n + 1 + (M.length - n) := by simp only [List.length_append, List.length_take, List.length_cons, List.length_drop]; omega
  rw [e]
  simpa [rcs] using h
set_option maxHeartbeats 8000000 in
set_option maxRecDepth 100000 in
theorem refRows_c (L : List Ve) (v : Value) (w : World) (hC : Ew w [] v L) (hv : ∀ e ∈ eds L, mayR e.1 = true) (hz : L.length ≤ 1000000000) : Calls Tryz.prog 41 #[v] w fun e w' => ∃ v' M, e = .returned v' ∧ rvs M = rowsL (eds L) ∧ OwnRs w' w.heap.size v' M ∧ (∀ p ∈ M, ∃ q ∈ L, q.1 = p.1 ∧ q.2.1 = p.2) ∧ Ext w w' := by
  obtain ⟨A, cap, rfl, hlc, hlm, hat⟩ := ew_form hC
  unfold maxLen at hlm
  have hrl := hide hC.2
  replace hat := hide hat
  have hvT : Hid (∀ k, (∀ y ∈ rowsL ((eds L).take k), mayR y = true) ∧ (rowsL ((eds L).take k)).Pairwise rlt) := fun k => by
    obtain ⟨h1, h2⟩ := rowsL_ok (l := (eds L).take k) fun e he => hv e (List.mem_of_mem_take he)
    refine ⟨fun y hy => ?_, h1⟩
    obtain ⟨e, he, rfl⟩ := (h2 y).1 hy
    exact hv e (List.mem_of_mem_take he)
  replace hv := hide hv
  clear hC
  have hlit0 := hide (World.ownsRow_lit (base := w.heap.size) (e := 33) (size := 1) w #[] 0 (Nat.le_refl _) (by decide) rfl)
  go_enter Tryz.func41, Tryz.ntmps41
  go_wp2_with fail
  go_loopg [3, 4] L.length (fun gh vv i wr => ∃ (k : Nat) (M : List Rv), i = .int .i64 k ∧ k + gh = L.length ∧ OwnRs wr w.heap.size vv M ∧ M.length ≤ k ∧ Hid (rvs M = rowsL ((eds L).take k)) ∧ Hid (∀ p ∈ M, ∃ q ∈ L, q.1 = p.1 ∧ q.2.1 = p.2) ∧ Ext w wr)
  case atStart => exact ⟨0, [], rfl, by omega, hlit0.out, Nat.le_refl _, (by show _ = _; simp [rvs, rowsL]), (by intro p hp; simp at hp), (Ext.refl w).alloc _⟩
  case round =>
    clear hlit0
    obtain ⟨k, M, rfl, hk, ho, hMk, hM, hMq, hX⟩ := hrel
    have hMr : Hid (∀ p ∈ M, Rw w [] p.1 p.2) := fun p hp => by
      obtain ⟨q, hq, e1, e2⟩ := hMq.out p hp
      rw [← e1, ← e2]; exact hrl.out q hq
    obtain ⟨wo, hwo⟩ : ∃ wo, wo = wr := ⟨_, rfl⟩
    subst hwo
    have hzX := hX.size
    obtain ⟨RA, rcap, rfl, hrc, hrm, hrt⟩ := rs_form (Sl.own (S := []) ho (by simp))
    unfold maxLen at hrm
    replace ho := hide ho
    replace hrt := hide hrt
    by_cases hlt : k < L.length
    · obtain ⟨⟨xv, xr, xj⟩, hx⟩ : ∃ x, L[k]? = some x := ⟨_, List.getElem?_eq_getElem hlt⟩
      obtain ⟨b, o, rfl, -, hb, c0, -, -⟩ := hat.out k _ hx
      have k0 := hide (cell_later hX c0)
      have hrx := hide (hrl.out _ (List.mem_of_getElem? hx))
      have hxm : Hid (∃ q ∈ L, q.1 = xv ∧ q.2.1 = xr) := ⟨_, List.mem_of_getElem? hx, rfl, rfl⟩
      simp only at k0 hrx
      have hxe : (eds L)[k]? = some (xr, xj) := by simp [eds, hx]
      have hmx : mayR xr = true := hv.out _ (List.mem_of_getElem? hxe)
      have hMv := hide (hM.out ▸ (hvT.out k).1 : ∀ y ∈ rvs M, mayR y = true)
      have hMa := hide (hM.out ▸ (hvT.out k).2 : (rvs M).Pairwise rlt)
      have hnx : Hid (∀ {N : List (List Vl)}, insR (rvs M) xr = N → N = rowsL ((eds L).take (k + 1))) := fun h => by
        rw [← h, rowsL_take_succ _ _ _ hxe, hM.out]
      replace hmx := hide hmx
      clear c0 hx hxe hat hM hvT hv
      go_wp2_with fail
      go_loopg [5] M.length (fun gh2 i2 wr2 => ∃ (n : Nat), i2 = .int .i64 n ∧ n + gh2 = M.length ∧ Hid (∀ y ∈ (rvs M).take n, cmpT y xr < 0) ∧ Ext wo wr2)
      case atStart => exact ⟨0, rfl, by omega, (by intro y hy; simp at hy), Ext.refl wo⟩
      case round =>
        obtain ⟨n, rfl, hn2, hT, hX2⟩ := hrel
        have hn : n ≤ M.length := by omega
        have hnI : (n : Int) ≤ M.length := by omega
        have hnc : n ≤ rcap := by omega
        have hncI : (n : Int) ≤ rcap := by omega
        by_cases hnl : n < M.length
        · obtain ⟨⟨yv, yr⟩, hy⟩ : ∃ y, M[n]? = some y := ⟨_, List.getElem?_eq_getElem hnl⟩
          obtain ⟨b', o', rfl, -, hb', d0⟩ := hrt.out n _ hy
          have j0 := cell_later hX2 d0
          have j1 := cell_later hX2 k0.out
          have hbr : b < _ := block_lt_of_cell j1
          have hbr' : b' < _ := block_lt_of_cell j0
          have hyr := hide (Sl.ext (Sl.ext (hMr.out _ (List.mem_of_getElem? hy)) hX) hX2)
          have hxr := hide (Sl.ext (Sl.ext hrx.out hX) hX2)
          simp only at j0 hyr
          have hyM : (rvs M)[n]? = some yr := by simp [rvs, hy]
          have hcmp := hide (fun w' hXw => refRowCompare_c (Sl.ext (w := w') hyr.out hXw) (Sl.ext hxr.out hXw))
          have hsm := hide (fun w' hXw => refRowSame_c (Sl.ext (w := w') hyr.out hXw) (Sl.ext hxr.out hXw))
          rw [cmpR_of (hMv.out _ (List.mem_of_getElem? hyM)) hmx.out] at hcmp
          replace hy := hide hy
          have hg1 : decide ((n : Int) < (M.length : Int)) = true := by rw [decide_eq_true_iff]; omega
          obtain ⟨YA, ycap, rfl⟩ := rw_val hyr.out
          obtain ⟨XA, xcap, rfl⟩ := rw_val hxr.out
          by_cases hc : cmpT yr xr < 0
          · have hT2 : Hid (∀ y ∈ (rvs M).take (n + 1), cmpT y xr < 0) := by
              intro y hy2
              rw [List.take_add_one, hyM] at hy2
              rcases List.mem_append.1 hy2 with h | h
              · exact hT.out y h
              · obtain rfl : y = yr := by simpa using h
                exact hc
            have hg2 : decide (cmpT yr xr < 0) = true := by rw [decide_eq_true_iff]; exact hc
            generalize cmpT yr xr = cm at *
            haveI : In b _ := ⟨hbr⟩
            haveI : In b' _ := ⟨hbr'⟩
            replace hT := hide hT
            clear hyM d0 hc hsm
            go_wp2_with fail
            refine wp_region_gw (by kernel_rfl) (by kernel_rfl) ?_
            repeat (go_big_quiet_step ((go_at_call 83; with_reducible exact quiet_gw (hcmp.out _ (GW.grown _)))))
            refine wpQuiet_nil ?_
            intro g
            go_wp2_with fail
            go_roundg (M.length - (n + 1))
            case measure => omega
            case rel => exact ⟨n + 1, by go_num, by omega, hT2, hX2.trans g.grown⟩
          · have hg2 : decide (cmpT yr xr < 0) = false := by rw [decide_eq_false_iff_not]; exact hc
            have hsplit : Hid (yr ≠ xr → insR (rvs M) xr = (rvs M).take n ++ xr :: (rvs M).drop n) := fun hne => ins_split hMv.out hmx.out hMa.out n hT.out (fun y h => by rw [hyM] at h; cases h; exact hc) (by rw [hyM]; intro h; cases h; exact hne rfl)
            generalize cmpT yr xr = cm at hcmp hg2
            haveI : In b _ := ⟨hbr⟩
            haveI : In b' _ := ⟨hbr'⟩
            replace hX2 := hide hX2
            replace hyM := hide hyM
            clear d0 hc
            by_cases hq : yr = xr
            · go_wp2_with fail
              rw [decide_eq_true hq] at hsm
              have hsame := hide (hnx.out (ins_same n (by rw [← hq]; simp [rvs, hy.out])))
              replace hq := hide hq
              clear hnx hsplit
              refine wp_region_gw (by kernel_rfl) (by kernel_rfl) ?_
              repeat (go_big_quiet_step ((go_at_call 83; with_reducible exact quiet_gw (hcmp.out _ (GW.grown _)))))
              refine wpQuiet_nil ?_
              intro g
              go_wp2_with fail
              refine wp_region_gw (by kernel_rfl) (by kernel_rfl) ?_
              repeat (go_big_quiet_step ((go_at_call 46; with_reducible exact quiet_gw (hsm.out _ (g.grown.trans (GW.grown _))))))
              refine wpQuiet_nil ?_
              intro g2
              go_wp2_with fail
              go_roundg (L.length - (k + 1))
              case measure => omega
              case rel => exact ⟨k + 1, M, by go_num, by omega, own_ext ho.out ((hX2.out.trans g.grown).trans g2.grown), by omega, hsame.out, hMq.out, hX.trans ((hX2.out.trans g.grown).trans g2.grown)⟩
            · rw [decide_eq_false hq] at hsm
              replace hsplit := hide (hsplit.out hq)
              replace hq := hide hq
              go_wp2_with fail
              refine wp_region_gw (by kernel_rfl) (by kernel_rfl) ?_
              repeat (go_big_quiet_step ((go_at_call 83; with_reducible exact quiet_gw (hcmp.out _ (GW.grown _)))))
              refine wpQuiet_nil ?_
              intro gg
              go_wp2_with fail
              refine wp_region_gw (by kernel_rfl) (by kernel_rfl) ?_
              repeat (go_big_quiet_step ((go_at_call 46; with_reducible exact quiet_gw (hsm.out _ (gg.grown.trans (GW.grown _))))))
              refine wpQuiet_nil ?_
              intro g
              have hXW := hide ((hX2.out.trans gg.grown).trans g.grown)
              have hsp := hide (hsplit.out)
              have hcut := hide (Sl.ext (Sl.cut (Sl.own (S := []) ho.out (by simp)) 0 n rcap (by omega) (by omega) (by omega) (by omega)) hXW.out)
              have hdrp := hide (Sl.ext (Sl.cut (Sl.own (S := []) ho.out (by simp)) n M.length rcap (by omega) (by omega) (by omega) (by omega)) hXW.out)
              rw [sliced_eq] at hcut hdrp
              simp only [Nat.sub_zero, Nat.zero_mul, Nat.mul_one, List.drop_zero] at hcut hdrp
              rw [List.take_of_length_le (show (rcs M).length ≤ M.length by simp)] at hdrp
              have kW := hide (cell_later hXW.out k0.out)
              obtain ⟨W, hW⟩ : ∃ W, W = g.val := ⟨_, rfl⟩
              rw [← hW] at hXW hcut hdrp kW ⊢
              have hlit := hide (World.ownsRow_lit (base := W.heap.size) (e := 33) (size := 1) W #[] 0 (Nat.le_refl _) (by decide) rfl)
              have hzW := hide hXW.out.size
              have h1T := hide (rcs_take n (fun p hp => row_one (hMr.out p hp)))
              have h1D := hide (rcs_drop n (fun p hp => row_one (hMr.out p hp)))
              clear hW hsplit
              go_wp2_with (at_builtin; first
                | (refine wpl_app tRows rfl (.tmp 49) (.tmp 52) rfl rfl hlit.out rfl (src_sl Tryz.underlying72 (Sl.alloc hcut.out _) h1T.out (by omega)) (by unfold maxLen; omega) (by omega) (by simp) ?_; intro v1 w1 ho1 hg1 _; have hX1 := hide (ext_grown ((Ext.refl W).alloc (.cells #[] 33)) hg1 (fun q hq => (hlit.out.lt q hq).1)); have k1 := cell_later hX1.out kW.out; have hb1 : b < w1.heap.size := block_lt_of_cell k1)
                | (refine wpl_app tRows rfl (.tmp 54) (.tmp 60) rfl rfl (own_ext ho1 ((Ext.refl w1).alloc _)) rfl (src_one Tryz.underlying72 w1 _ _ (row_one hrx.out)) (by unfold maxLen; omega) (by omega) (by simp; have := hX1.out.size; omega) ?_; intro v2 w2 ho2 hg2 _; have hX2 := hide (ext_grown (hX1.out.alloc _) hg2 (fun q hq => (ho1.lt q hq).1)))
                | (refine wpl_app tRows rfl (.tmp 62) (.tmp 65) rfl rfl ho2 rfl (src_sl Tryz.underlying72 (Sl.ext hdrp.out hX2.out) h1D.out (by omega)) (by unfold maxLen; omega) (by omega) (hX2.out.size) ?_; intro v3 w3 ho3 hg3 _; have hX3 := hide (ext_grown hX2.out hg3 (fun q hq => (ho2.lt q hq).1))))
              go_roundg (L.length - (k + 1))
              case measure => omega
              case rel => exact ⟨k + 1, M.take n ++ (.slice XA xr.length xcap, xr) :: M.drop n, by go_num, by omega, own_base (own_rs hn ho3) (by have := hX.size; have := hzW.out; omega), by simp only [List.length_append, List.length_take, List.length_cons, List.length_drop]; omega, hnx.out (by rw [hsp.out]; simp [rvs]), by
                intro p hp
                rcases List.mem_append.1 hp with hp | hp
                · exact hMq.out p (List.mem_of_mem_take hp)
                · rcases List.mem_cons.1 hp with rfl | hp
                  · exact hxm.out
                  · exact hMq.out p (List.mem_of_mem_drop hp), (hX.trans hXW.out).trans hX3.out⟩
        · have hn3 : n = M.length := by omega
          have hg1 : decide ((n : Int) < (M.length : Int)) = false := by rw [decide_eq_false_iff_not]; omega
          have hsplit : Hid (insR (rvs M) xr = (rvs M).take n ++ xr :: (rvs M).drop n) := ins_split hMv.out hmx.out hMa.out n hT.out (fun y h => by rw [hn3] at h; simp [rvs] at h) (by rw [hn3]; simp [rvs])
          obtain ⟨XA, xcap, rfl⟩ := rw_val hrx.out
          replace hX2 := hide hX2
          replace hn3 := hide hn3
          go_wp2_with fail
          refine wp_region_gw (by kernel_rfl) (by kernel_rfl) ?_
          repeat (go_big_quiet_step (fail))
          refine wpQuiet_nil ?_
          intro gg
          go_wp2_with fail
          refine wp_region_gw (by kernel_rfl) (by kernel_rfl) ?_
          repeat (go_big_quiet_step (fail))
          refine wpQuiet_nil ?_
          intro g
          have hXW := hide ((hX2.out.trans gg.grown).trans g.grown)
          have hsp := hide (hsplit.out)
          have hcut := hide (Sl.ext (Sl.cut (Sl.own (S := []) ho.out (by simp)) 0 n rcap (by omega) (by omega) (by omega) (by omega)) hXW.out)
          have hdrp := hide (Sl.ext (Sl.cut (Sl.own (S := []) ho.out (by simp)) n M.length rcap (by omega) (by omega) (by omega) (by omega)) hXW.out)
          rw [sliced_eq] at hcut hdrp
          simp only [Nat.sub_zero, Nat.zero_mul, Nat.mul_one, List.drop_zero] at hcut hdrp
          rw [List.take_of_length_le (show (rcs M).length ≤ M.length by simp)] at hdrp
          have kW := hide (cell_later hXW.out k0.out)
          obtain ⟨W, hW⟩ : ∃ W, W = g.val := ⟨_, rfl⟩
          rw [← hW] at hXW hcut hdrp kW ⊢
          have hlit := hide (World.ownsRow_lit (base := W.heap.size) (e := 33) (size := 1) W #[] 0 (Nat.le_refl _) (by decide) rfl)
          have hzW := hide hXW.out.size
          have h1T := hide (rcs_take n (fun p hp => row_one (hMr.out p hp)))
          have h1D := hide (rcs_drop n (fun p hp => row_one (hMr.out p hp)))
          clear hW hsplit
          go_wp2_with (at_builtin; first
            | (refine wpl_app tRows rfl (.tmp 49) (.tmp 52) rfl rfl hlit.out rfl (src_sl Tryz.underlying72 (Sl.alloc hcut.out _) h1T.out (by omega)) (by unfold maxLen; omega) (by omega) (by simp) ?_; intro v1 w1 ho1 hg1 _; have hX1 := hide (ext_grown ((Ext.refl W).alloc (.cells #[] 33)) hg1 (fun q hq => (hlit.out.lt q hq).1)); have k1 := cell_later hX1.out kW.out; have hb1 : b < w1.heap.size := block_lt_of_cell k1)
            | (refine wpl_app tRows rfl (.tmp 54) (.tmp 60) rfl rfl (own_ext ho1 ((Ext.refl w1).alloc _)) rfl (src_one Tryz.underlying72 w1 _ _ (row_one hrx.out)) (by unfold maxLen; omega) (by omega) (by simp; have := hX1.out.size; omega) ?_; intro v2 w2 ho2 hg2 _; have hX2 := hide (ext_grown (hX1.out.alloc _) hg2 (fun q hq => (ho1.lt q hq).1)))
            | (refine wpl_app tRows rfl (.tmp 62) (.tmp 65) rfl rfl ho2 rfl (src_sl Tryz.underlying72 (Sl.ext hdrp.out hX2.out) h1D.out (by omega)) (by unfold maxLen; omega) (by omega) (hX2.out.size) ?_; intro v3 w3 ho3 hg3 _; have hX3 := hide (ext_grown hX2.out hg3 (fun q hq => (ho2.lt q hq).1))))
          go_roundg (L.length - (k + 1))
          case measure => omega
          case rel => exact ⟨k + 1, M.take n ++ (.slice XA xr.length xcap, xr) :: M.drop n, by go_num, by omega, own_base (own_rs hn ho3) (by have := hX.size; have := hzW.out; omega), by simp only [List.length_append, List.length_take, List.length_cons, List.length_drop]; omega, hnx.out (by rw [hsp.out]; simp [rvs]), by
            intro p hp
            rcases List.mem_append.1 hp with hp | hp
            · exact hMq.out p (List.mem_of_mem_take hp)
            · rcases List.mem_cons.1 hp with rfl | hp
              · exact hxm.out
              · exact hMq.out p (List.mem_of_mem_drop hp), (hX.trans hXW.out).trans hX3.out⟩
    · have hk' : k = L.length := by omega
      have hge : (L.length : Int) ≤ k := by omega
      have hM2 := hM.out
      rw [List.take_of_length_le (by simp [eds]; omega)] at hM2
      replace hM2 := hide hM2
      replace hk' := hide hk'
      clear hM
      go_wp2_with fail
      go_returns
      exact ⟨_, M, rfl, hM2.out, ho.out, hMq.out, hX⟩
end Go.Proofs.YtljkneajdndgjabGreat
set_option linter.unusedVariables false
set_option linter.unusedSimpArgs false
namespace Go.Proofs.YtljkneajdndgjabGreat
open Go.RowKit
attribute [local go_sem] GW.cell GW.frozen In.eq_true In.le_true In.ne In.ne' In.ne_add In.ne_add' In.lt_add Upto.le_true Upto.le_add Upto.lt_add
set_option maxHeartbeats 8000000 in
set_option maxRecDepth 100000 in
theorem refJumps_c (L : List Ve) (r : List Vl) (v u : Value) (w : World) (hC : Ew w [] v L) (hr : Rw w [] u r) (hz : L.length ≤ 1000000000) : Calls Tryz.prog 19 #[v, u] w fun e w' => ∃ v', e = .returned v' ∧ OwnJ w' w.heap.size v' (jmps (eds L) r) ∧ Ext w w' := by
  obtain ⟨A, cap, rfl, hl, hm, hat⟩ := ew_form hC
  unfold maxLen at hm
  replace hat := hide hat
  have hrows := hide hC.2
  have hrw := hide hr
  obtain ⟨RA, rcap, rfl⟩ := rw_val hr
  obtain ⟨R, hR⟩ : ∃ R, R = jmps (eds L) r := ⟨_, rfl⟩
  rw [← hR]
  replace hR := hide hR
  have hlit := hide (World.ownsRow_lit (base := w.heap.size) (e := 80) (size := 2) w #[] 0 (Nat.le_refl _) (by decide) rfl)
  clear hC hr
  go_enter Tryz.func19, Tryz.ntmps19
  go_wp2_with fail
  go_loopg [5, 6] L.length (fun gh vv i wr => ∃ (k : Nat) (acc : List Jp), i = .int .i64 k ∧ k + gh = L.length ∧ OwnJ wr w.heap.size vv acc ∧ acc.length ≤ k ∧ Hid (acc = jmps (eds (L.take k)) r) ∧ Ext w wr)
  case atStart => exact ⟨0, [], rfl, by omega, hlit.out, Nat.le_refl _, (by show _ = _; simp [eds, jmps]), (Ext.refl w).alloc _⟩
  case round =>
    obtain ⟨k, acc, rfl, hk, ho, hak, hacc, hX⟩ := hrel
    have hzX := hX.size
    by_cases hlt : k < L.length
    · obtain ⟨x, hx⟩ : ∃ x, L[k]? = some x := ⟨_, List.getElem?_eq_getElem hlt⟩
      obtain ⟨b0, o0, rfl, -, hb', c0, c1, c2⟩ := hat.out k x hx
      have k0 := cell_later hX c0
      have k1 := hide (cell_later hX c1)
      have k2 := hide (cell_later hX c2)
      have hbr : b0 < wr.heap.size := block_lt_of_cell k0
      have hrx := Sl.ext (hrows.out x (List.mem_of_getElem? hx)) hX
      have hsm := hide (refRowSame_c hrx (Sl.ext hrw.out hX))
      have htk : eds (L.take (k + 1)) = eds (L.take k) ++ [x.2] := by rw [List.take_add_one, hx]; simp [eds]
      obtain ⟨xv, xq, xa, xn⟩ := x
      simp only at k0 hrx hsm htk
      obtain ⟨XA, xcap, rfl⟩ := rw_val hrx
      have hnx1 : Hid (xq = r → acc ++ [(xa, xn)] = jmps (eds (L.take (k + 1))) r) := fun h => by
        rw [htk, jmps_append, hacc.out, jmps_cons, if_pos h]; rfl
      have hnx2 : Hid (¬ xq = r → acc = jmps (eds (L.take (k + 1))) r) := fun h => by
        rw [htk, jmps_append, hacc.out, jmps_cons, if_neg h]; simp [jmps]
      clear c0 c1 c2 hat hx hacc hrows hrx htk
      by_cases hq : xq = r
      · have hnx := hide (hnx1.out hq)
        rw [decide_eq_true hq] at hsm
        replace hq := hide hq
        obtain ⟨C, ccap, rfl⟩ := own_form ho
        replace ho := hide ho
        clear hnx1 hnx2
        go_wp2_with (go_at_call 46; (with_reducible refine seq_gw hsm.out ?_); intro g)
        replace ho := hide (own_ext ho.out g.grown)
        have q1 := hide (cell_later g.grown k1.out)
        have q2 := hide (cell_later g.grown k2.out)
        have hzg := g.grown.size
        refine wp_region_list_tail 13 [(.is (.slice C acc.length ccap)), (.is (.slice (some ⟨b0, o0, none⟩) L.length cap)), (.is (.int .i64 k)), (.is (.pointer (some ⟨b0, o0 + k * 3, none⟩))), (.is (.pointer (some ⟨b0, o0 + k * 3 + 1, none⟩))), (.is (.int .i64 xa)), (.is (.slice (some ⟨b0, o0, none⟩) L.length cap)), (.is (.int .i64 k)), (.is (.pointer (some ⟨b0, o0 + k * 3, none⟩))), (.is (.pointer (some ⟨b0, o0 + k * 3 + 2, none⟩))), (.is (.int .i64 xn)), (.is (jm (xa, xn))), oneJ (xa, xn)] (by kernel_rfl) (by kernel_rfl) (by kernel_rfl) (by kernel_rfl) (by kernel_rfl) (by kernel_rfl) (by kernel_rfl) ?_ ?_
        · refine ⟨?_, ?_, ?_, ?_, ?_, ?_, ?_, ?_, ?_, ?_, ?_, ?_, ?_, trivial⟩
          · intro b w' h hE
            have f5 : b.tmps.getD 5 undef = .slice C acc.length ccap := hE 5 (of_decide_eq_true (by kernel_rfl))
            exact good_move (wanted_none rfl) rfl f5
          · intro b w' h hE
            have f0 : b.tmps.getD 0 undef = .slice (some ⟨b0, o0, none⟩) L.length cap := hE 0 (of_decide_eq_true (by kernel_rfl))
            exact good_move (wanted_none rfl) rfl f0
          · intro b w' h hE
            have f6 : b.tmps.getD 6 undef = .int .i64 k := hE 6 (of_decide_eq_true (by kernel_rfl))
            exact good_move (wanted_none rfl) rfl f6
          · intro b w' h hE
            have f22 : b.tmps.getD 22 undef = .slice (some ⟨b0, o0, none⟩) L.length cap := h.dep 1 _ 22 (by kernel_rfl) rfl rfl
            have f23 : b.tmps.getD 23 undef = .int .i64 k := h.dep 2 _ 23 (by kernel_rfl) rfl rfl
            exact good_index (wanted_none rfl) rfl f22 f23 (by simp [go_sem, hlt]) rfl
          · intro b w' h hE
            have f24 : b.tmps.getD 24 undef = .pointer (some ⟨b0, o0 + k * 3, none⟩) := h.dep 3 _ 24 (by kernel_rfl) rfl rfl
            exact good_field (wanted_none rfl) rfl f24 (by simp [go_sem]) rfl
          · intro b w' h hE
            have f25 : b.tmps.getD 25 undef = .pointer (some ⟨b0, o0 + k * 3 + 1, none⟩) := h.dep 4 _ 25 (by kernel_rfl) rfl rfl
            have c0 := cell_later h.ext q1.out
            exact good_load (wanted_none rfl) rfl f25 (by simp [go_sem, c0]) rfl
          · intro b w' h hE
            have f0 : b.tmps.getD 0 undef = .slice (some ⟨b0, o0, none⟩) L.length cap := hE 0 (of_decide_eq_true (by kernel_rfl))
            exact good_move (wanted_none rfl) rfl f0
          · intro b w' h hE
            have f6 : b.tmps.getD 6 undef = .int .i64 k := hE 6 (of_decide_eq_true (by kernel_rfl))
            exact good_move (wanted_none rfl) rfl f6
          · intro b w' h hE
            have f27 : b.tmps.getD 27 undef = .slice (some ⟨b0, o0, none⟩) L.length cap := h.dep 6 _ 27 (by kernel_rfl) rfl rfl
            have f28 : b.tmps.getD 28 undef = .int .i64 k := h.dep 7 _ 28 (by kernel_rfl) rfl rfl
            exact good_index (wanted_none rfl) rfl f27 f28 (by simp [go_sem, hlt]) rfl
          · intro b w' h hE
            have f29 : b.tmps.getD 29 undef = .pointer (some ⟨b0, o0 + k * 3, none⟩) := h.dep 8 _ 29 (by kernel_rfl) rfl rfl
            exact good_field (wanted_none rfl) rfl f29 (by simp [go_sem]) rfl
          · intro b w' h hE
            have f30 : b.tmps.getD 30 undef = .pointer (some ⟨b0, o0 + k * 3 + 2, none⟩) := h.dep 9 _ 30 (by kernel_rfl) rfl rfl
            have c0 := cell_later h.ext q2.out
            exact good_load (wanted_none rfl) rfl f30 (by simp [go_sem, c0]) rfl
          · intro b w' h hE
            have f26 : b.tmps.getD 26 undef = .int .i64 xa := h.dep 5 _ 26 (by kernel_rfl) rfl rfl
            have g26 : b.tmps[26]?.getD undef = .int .i64 xa := by rw [← Array.getD_eq_getD_getElem?]; exact f26
            have f31 : b.tmps.getD 31 undef = .int .i64 xn := h.dep 10 _ 31 (by kernel_rfl) rfl rfl
            have g31 : b.tmps[31]?.getD undef = .int .i64 xn := by rw [← Array.getD_eq_getD_getElem?]; exact f31
            exact good_run (wanted_none rfl) (by simp [execOp, Act.eval, go_sem, g26, g31, Sem.run_bind, Sem.run_pure, Result.andThen_ok]) rfl
          · intro b w' h hE
            have f32 : b.tmps.getD 32 undef = jm (xa, xn) := h.dep 11 _ 32 (by kernel_rfl) rfl rfl
            have g32 : b.tmps[32]?.getD undef = jm (xa, xn) := by rw [← Array.getD_eq_getD_getElem?]; exact f32
            have := buildJ1 (xa, xn) w'
            refine good_grow (w' := w'.alloc (.cells #[.int .i64 ((xa, xn)).1, .int .i64 ((xa, xn)).2] 80)) (v := .slice (some ⟨w'.heap.size, 0, none⟩) 1 1) (wanted_none rfl) ?_ (oneJ_new (xa, xn) w') ((Ext.refl _).alloc _)
            simp [execOp, Act.eval, g32, this, Sem.run_bind, Sem.run_pure, Result.andThen_ok]
        · intro b w2 hX2 hd hz he' hf
          have e21 : b.tmps.getD 21 undef = .slice C acc.length ccap := hf 0 _ 21 (by omega) rfl rfl
          have e22 : b.tmps.getD 22 undef = .slice (some ⟨b0, o0, none⟩) L.length cap := hf 1 _ 22 (by omega) rfl rfl
          have e23 : b.tmps.getD 23 undef = .int .i64 k := hf 2 _ 23 (by omega) rfl rfl
          have e24 : b.tmps.getD 24 undef = .pointer (some ⟨b0, o0 + k * 3, none⟩) := hf 3 _ 24 (by omega) rfl rfl
          have e25 : b.tmps.getD 25 undef = .pointer (some ⟨b0, o0 + k * 3 + 1, none⟩) := hf 4 _ 25 (by omega) rfl rfl
          have e26 : b.tmps.getD 26 undef = .int .i64 xa := hf 5 _ 26 (by omega) rfl rfl
          have e27 : b.tmps.getD 27 undef = .slice (some ⟨b0, o0, none⟩) L.length cap := hf 6 _ 27 (by omega) rfl rfl
          have e28 : b.tmps.getD 28 undef = .int .i64 k := hf 7 _ 28 (by omega) rfl rfl
          have e29 : b.tmps.getD 29 undef = .pointer (some ⟨b0, o0 + k * 3, none⟩) := hf 8 _ 29 (by omega) rfl rfl
          have e30 : b.tmps.getD 30 undef = .pointer (some ⟨b0, o0 + k * 3 + 2, none⟩) := hf 9 _ 30 (by omega) rfl rfl
          have e31 : b.tmps.getD 31 undef = .int .i64 xn := hf 10 _ 31 (by omega) rfl rfl
          have e32 : b.tmps.getD 32 undef = jm (xa, xn) := hf 11 _ 32 (by omega) rfl rfl
          have f9 : Jw w2 [] (b.tmps.getD 33 undef) [(xa, xn)] := hf 12 _ 33 (by omega) rfl rfl
          have e := frame_puts hd hz he'
          obtain ⟨X, hXx⟩ : ∃ X : Nat → Value, ∀ d, b.tmps.getD d undef = X d := ⟨_, fun _ => rfl⟩
          rw [hXx] at e21 e22 e23 e24 e25 e26 e27 e28 e29 e30 e31 e32 f9
          obtain ⟨A33, c33, q33⟩ := jone_form f9
          rw [show dstsOf _ = [21, 22, 23, 24, 25, 26, 27, 28, 29, 30, 31, 32, 33] from rfl] at e
          simp only [List.foldl_cons, List.foldl_nil, hXx, Act.put, List.setIfInBounds_toArray, List.set_cons_succ, List.set_cons_zero] at e
          rw [e21, e22, e23, e24, e25, e26, e27, e28, e29, e30, e31, e32, q33] at e
          rw [q33] at f9
          replace f9 := hide f9
          clear hf he' hz hd hXx e21 e22 e23 e24 e25 e26 e27 e28 e29 e30 e31 e32 q33
          subst e
          have hzw := hX2.size
          simp only [List.drop_succ_cons, List.drop_zero]
          go_wp2_with (at_builtin; (refine wpl_app tJmp rfl (.tmp 21) (.tmp 33) rfl rfl (own_ext ho.out hX2) rfl (src_sl Tryz.underlying39 f9.out (ps_one _) (by omega)) (by unfold maxLen; simp only [List.length_singleton]; omega) (by simp only [List.length_singleton]; omega) (by omega) ?_; intro v8 w8 ho8 hg8 _; have hX8 := hide (ext_grown ((hX.trans g.grown).trans hX2) hg8 (fun q hq => (ho.out.lt q hq).1))))
          go_roundg (L.length - (k + 1))
          case measure => omega
          case rel => exact ⟨k + 1, acc ++ [(xa, xn)], by go_num, by omega, own_appJ ho8, by rw [List.length_append, List.length_singleton]; omega, hnx.out, hX8.out⟩
      · have hnx := hide (hnx2.out hq)
        rw [decide_eq_false hq] at hsm
        replace hq := hide hq
        clear hnx1 hnx2
        go_wp2_with (go_at_call 46; (with_reducible refine seq_gw hsm.out ?_); intro g)
        go_roundg (L.length - (k + 1))
        case measure => omega
        case rel => exact ⟨k + 1, acc, by go_num, by omega, own_ext ho g.grown, by omega, hnx.out, hX.trans g.grown⟩
    · have hk' : k = L.length := by omega
      have hge : (L.length : Int) ≤ k := by omega
      have hac := hacc.out
      rw [List.take_of_length_le (by omega)] at hac
      have hRa := hide (hR.out.trans hac.symm)
      replace hk' := hide hk'
      obtain ⟨C, ccap, rfl⟩ := own_form ho
      clear hac hacc
      go_wp2_with fail
      go_returns
      rw [hRa.out]
      exact ⟨_, rfl, ho, hX⟩
end Go.Proofs.YtljkneajdndgjabGreat
