/-
  A helper of ours: no claim of its own. Layer 6 (row): Compare, on both sides.
-/
import Derived.Test.YtljkneajdndgjabGreatRowC
set_option linter.unusedVariables false
set_option linter.unusedSimpArgs false
namespace Go.Proofs.YtljkneajdndgjabGreat
open Go.RowKit
attribute [local go_sem] GW.cell GW.frozen In.eq_true In.le_true In.ne In.ne' In.ne_add In.ne_add' In.lt_add Upto.le_true Upto.le_add Upto.lt_add
abbrev bxR (v : Value) : Obj := .cells #[v] 33
section
variable {l m : List Vl} {v u : Value} {w : World}
set_option maxHeartbeats 2000000 in
set_option maxRecDepth 100000 in
theorem rowCompareNo_c (hl : Rw w [] v l) (hm : Rw w [] u m) (h : (mayR l && mayR m) = false) : Calls Tryz.prog 112 #[v, u] w fun e w' => e = .returned (.int .i64 0) ∧ Ext w w' := by
  have h1 := hide (fun w' (hX : Ext w w') => rowMay_c l v w' (Sl.ext hl hX))
  have h2 := hide (fun w' (hX : Ext w w') => rowMay_c m u w' (Sl.ext hm hX))
  obtain ⟨A, cap, rfl, -, -, -⟩ := rw_form hl
  obtain ⟨B, cap2, rfl, -, -, -⟩ := rw_form hm
  have hX0 := hide (((Ext.refl w).alloc (bxR (.slice A l.length cap))).alloc (bxR (.slice B m.length cap2)))
  clear hl hm
  cases ha : mayR l
  · rw [ha] at h1
    clear h ha
    go_enter Tryz.func112, Tryz.ntmps112
    go_wp2_with (go_at_call 53; (with_reducible refine seq_gw (h1.out _ hX0.out) ?_); intro g)
    go_returns
    exact ⟨rfl, hX0.out.trans g.grown⟩
  · rw [ha, Bool.true_and] at h
    rw [ha] at h1
    rw [h] at h2
    clear h ha
    go_enter Tryz.func112, Tryz.ntmps112
    go_wp2_with (first | (go_at_call 53; (with_reducible refine seq_gw (h1.out _ hX0.out) ?_); intro g) | (go_at_call 53; (with_reducible refine seq_gw' (h2.out _ (hX0.out.trans g.grown)) ?_); intro g2))
    go_returns
    exact ⟨rfl, hX0.out.trans g2.grown⟩
set_option maxHeartbeats 4000000 in
set_option maxRecDepth 100000 in
theorem rowCompareYes_c (hl : Rw w [] v l) (hm : Rw w [] u m) (ha : mayR l = true) (hb : mayR m = true) : Calls Tryz.prog 112 #[v, u] w fun e w' => e = .returned (.int .i64 (cmpT l m)) ∧ Ext w w' := by
  have h1 := hide (fun w' (hX : Ext w w') => rowMay_c l v w' (Sl.ext hl hX))
  have h2 := hide (fun w' (hX : Ext w w') => rowMay_c m u w' (Sl.ext hm hX))
  rw [ha] at h1
  rw [hb] at h2
  obtain ⟨A, cap, rfl, hlc, hlm, hat⟩ := rw_form hl
  obtain ⟨B, cap2, rfl, hmc, hmm, hbt⟩ := rw_form hm
  unfold maxLen at hlm hmm
  have l8 := (mayR_iff.1 ha).1
  have m8 := (mayR_iff.1 hb).1
  replace hat := hide hat
  replace hbt := hide hbt
  have hX0 := hide (((Ext.refl w).alloc (bxR (.slice A l.length cap))).alloc (bxR (.slice B m.length cap2)))
  have oa := (Ob.new w 33 [.slice A l.length cap]).alloc (bxR (.slice B m.length cap2))
  have ob : Ob ((w.alloc (bxR (.slice A l.length cap))).alloc (bxR (.slice B m.length cap2))) (w.heap.size + 1) 33 [.slice B m.length cap2] := by
    have := Ob.new (w.alloc (bxR (.slice A l.length cap))) 33 [.slice B m.length cap2]
    simpa using this
  replace oa := hide oa
  replace ob := hide ob
  have hf : Hid (∀ w', Ext ((w.alloc (bxR (.slice A l.length cap))).alloc (bxR (.slice B m.length cap2))) w' → Calls Tryz.prog 139 #[.int .i64 (min l.length m.length : Nat), .func (.func 140) #[] #[.pointer (some ⟨w.heap.size, 0, none⟩), .pointer (some ⟨w.heap.size + 1, 0, none⟩)]] w' fun e w'' => e = .returned (.int .i64 (pre l m : Nat)) ∧ Ext w' w'') :=
    fun w' hX => first_c (Sl.ext hl (hX0.out.trans hX)) (Sl.ext hm (hX0.out.trans hX)) (oa.out.ext hX) (ob.out.ext hX) _ rfl
  have hpl := pre_le l m
  by_cases hlt : m.length < l.length
  · have e0 : min l.length m.length = m.length := by omega
    rw [e0] at hf
    have hI : (m.length : Int) < l.length := by omega
    by_cases hp : pre l m = m.length
    · have hce := cmpT_end l m (by rw [e0]; exact hp)
      rw [hce]
      rw [hp] at hf
      have hc := hide (fun w => cmpInt_c l.length m.length w)
      clear hce hp e0 hlt hat hbt hpl ha hb oa ob hl hm
      go_enter Tryz.func112, Tryz.ntmps112
      go_wp2_with (first | (go_at_call 53; (with_reducible refine seq_gw (h1.out _ hX0.out) ?_); intro g) | (go_at_call 53; (with_reducible refine seq_gw' (h2.out _ (hX0.out.trans g.grown)) ?_); intro g2) | (go_at_call 139; (with_reducible refine seq_gw' (hf.out _ g2.grown) ?_); intro g3) | (go_at_call 141; (with_reducible refine seq_gw' (hc.out _) ?_); intro g4))
      go_returns
      exact ⟨rfl, hX0.out.trans g4.grown⟩
    · obtain ⟨x, hx⟩ : ∃ x, l[pre l m]? = some x := ⟨_, List.getElem?_eq_getElem (by omega)⟩
      obtain ⟨y, hy⟩ : ∃ y, m[pre l m]? = some y := ⟨_, List.getElem?_eq_getElem (by omega)⟩
      have hcd := cmpT_diff l m x y hx hy
      rw [hcd]
      obtain ⟨b, o, rfl, -, hb1, c0, c1, c2⟩ := hat.out _ x hx
      obtain ⟨b', o', rfl, -, hb2, d0, d1, d2⟩ := hbt.out _ y hy
      obtain ⟨xk, xn, xs⟩ := x
      obtain ⟨yk, yn, ys⟩ := y
      have hc := hide (fun w => compare_c xk xn yk yn xs ys w)
      have hpb : (((pre l m : Nat) : Int) == m.length) = false := by rw [beq_eq_false_iff_ne]; omega
      have hp1 : pre l m < l.length := by omega
      have hp2 : pre l m < m.length := by omega
      haveI : In b w := ⟨hb1⟩
      haveI : In b' w := ⟨hb2⟩
      generalize pre l m = q at *
      clear hcd hp e0 hlt hat hbt hx hy hpl ha hb oa ob hl hm
      go_enter Tryz.func112, Tryz.ntmps112
      go_wp2_with (first | (go_at_call 53; (with_reducible refine seq_gw (h1.out _ hX0.out) ?_); intro g) | (go_at_call 53; (with_reducible refine seq_gw' (h2.out _ (hX0.out.trans g.grown)) ?_); intro g2) | (go_at_call 139; (with_reducible refine seq_gw' (hf.out _ g2.grown) ?_); intro g3))
      refine wp_region_gw (by kernel_rfl) (by kernel_rfl) ?_
      repeat (go_big_quiet_step ((go_at_call 142; with_reducible exact quiet_gw (hc.out _))))
      refine wpQuiet_nil ?_
      intro g4
      go_wp2_with fail
      go_returns
      exact ⟨rfl, hX0.out.trans (g3.grown.trans g4.grown)⟩
  · have e0 : min l.length m.length = l.length := by omega
    rw [e0] at hf
    have hI : ¬ (m.length : Int) < l.length := by omega
    by_cases hp : pre l m = l.length
    · have hce := cmpT_end l m (by rw [e0]; exact hp)
      rw [hce]
      rw [hp] at hf
      have hc := hide (fun w => cmpInt_c l.length m.length w)
      clear hce hp e0 hlt hat hbt hpl ha hb oa ob hl hm
      go_enter Tryz.func112, Tryz.ntmps112
      go_wp2_with (first | (go_at_call 53; (with_reducible refine seq_gw (h1.out _ hX0.out) ?_); intro g) | (go_at_call 53; (with_reducible refine seq_gw' (h2.out _ (hX0.out.trans g.grown)) ?_); intro g2) | (go_at_call 139; (with_reducible refine seq_gw' (hf.out _ g2.grown) ?_); intro g3) | (go_at_call 141; (with_reducible refine seq_gw' (hc.out _) ?_); intro g4))
      go_returns
      exact ⟨rfl, hX0.out.trans g4.grown⟩
    · obtain ⟨x, hx⟩ : ∃ x, l[pre l m]? = some x := ⟨_, List.getElem?_eq_getElem (by omega)⟩
      obtain ⟨y, hy⟩ : ∃ y, m[pre l m]? = some y := ⟨_, List.getElem?_eq_getElem (by omega)⟩
      have hcd := cmpT_diff l m x y hx hy
      rw [hcd]
      obtain ⟨b, o, rfl, -, hb1, c0, c1, c2⟩ := hat.out _ x hx
      obtain ⟨b', o', rfl, -, hb2, d0, d1, d2⟩ := hbt.out _ y hy
      obtain ⟨xk, xn, xs⟩ := x
      obtain ⟨yk, yn, ys⟩ := y
      have hc := hide (fun w => compare_c xk xn yk yn xs ys w)
      have hpb : (((pre l m : Nat) : Int) == l.length) = false := by rw [beq_eq_false_iff_ne]; omega
      have hp1 : pre l m < l.length := by omega
      have hp2 : pre l m < m.length := by omega
      haveI : In b w := ⟨hb1⟩
      haveI : In b' w := ⟨hb2⟩
      generalize pre l m = q at *
      clear hcd hp e0 hlt hat hbt hx hy hpl ha hb oa ob hl hm
      go_enter Tryz.func112, Tryz.ntmps112
      go_wp2_with (first | (go_at_call 53; (with_reducible refine seq_gw (h1.out _ hX0.out) ?_); intro g) | (go_at_call 53; (with_reducible refine seq_gw' (h2.out _ (hX0.out.trans g.grown)) ?_); intro g2) | (go_at_call 139; (with_reducible refine seq_gw' (hf.out _ g2.grown) ?_); intro g3))
      refine wp_region_gw (by kernel_rfl) (by kernel_rfl) ?_
      repeat (go_big_quiet_step ((go_at_call 142; with_reducible exact quiet_gw (hc.out _))))
      refine wpQuiet_nil ?_
      intro g4
      go_wp2_with fail
      go_returns
      exact ⟨rfl, hX0.out.trans (g3.grown.trans g4.grown)⟩
theorem rowCompare_c (hl : Rw w [] v l) (hm : Rw w [] u m) : Calls Tryz.prog 112 #[v, u] w fun e w' => e = .returned (.int .i64 (cmpR l m)) ∧ Ext w w' := by
  cases h : (mayR l && mayR m)
  · rw [show cmpR l m = 0 by unfold cmpR; rw [h]; rfl]
    exact rowCompareNo_c hl hm h
  · rw [show cmpR l m = cmpT l m by unfold cmpR; rw [h]; rfl]
    rw [Bool.and_eq_true] at h
    exact rowCompareYes_c hl hm h.1 h.2
set_option maxHeartbeats 4000000 in
set_option maxRecDepth 100000 in
theorem refRowCompare_c (hl : Rw w [] v l) (hm : Rw w [] u m) : Calls Tryz.prog 83 #[v, u] w fun e w' => e = .returned (.int .i64 (cmpR l m)) ∧ Ext w w' := by
  have h1 := hide (fun w' (hX : Ext w w') => refRowMay_c l v w' (Sl.ext hl hX))
  have h2 := hide (fun w' (hX : Ext w w') => refRowMay_c m u w' (Sl.ext hm hX))
  obtain ⟨A, cap, rfl, hlc, hlm, hat⟩ := rw_form hl
  obtain ⟨B, cap2, rfl, hmc, hmm, hbt⟩ := rw_form hm
  unfold maxLen at hlm hmm
  replace hat := hide hat
  replace hbt := hide hbt
  have hX0 := hide (Ext.refl w)
  clear hl hm
  cases ha : mayR l
  · rw [show cmpR l m = 0 by unfold cmpR; rw [ha]; rfl]
    rw [ha] at h1
    clear ha
    go_enter Tryz.func83, Tryz.ntmps83
    go_wp2_with (go_at_call 47; (with_reducible refine seq_gw (h1.out _ hX0.out) ?_); intro g)
    go_returns
    exact ⟨rfl, g.grown⟩
  cases hb : mayR m
  · rw [show cmpR l m = 0 by unfold cmpR; rw [ha, hb]; rfl]
    rw [ha] at h1
    rw [hb] at h2
    clear ha hb
    go_enter Tryz.func83, Tryz.ntmps83
    go_wp2_with (first | (go_at_call 47; (with_reducible refine seq_gw (h1.out _ hX0.out) ?_); intro g) | (go_at_call 47; (with_reducible refine seq_gw' (h2.out _ g.grown) ?_); intro g2))
    go_returns
    exact ⟨rfl, g2.grown⟩
  rw [show cmpR l m = cmpT l m by unfold cmpR; rw [ha, hb]; rfl]
  rw [ha] at h1
  rw [hb] at h2
  have hma := hide (mayR_iff.1 ha).2
  have hmb := hide (mayR_iff.1 hb).2
  obtain ⟨R, hR⟩ : ∃ R, R = cmpT l m := ⟨_, rfl⟩
  rw [← hR]
  replace hR := hide hR
  clear ha hb
  go_enter Tryz.func83, Tryz.ntmps83
  go_wp2_with (first | (go_at_call 47; (with_reducible refine seq_gw (h1.out _ hX0.out) ?_); intro g) | (go_at_call 47; (with_reducible refine seq_gw' (h2.out _ g.grown) ?_); intro g2))
  go_loopg [5] l.length (fun gh i wr => ∃ (k : Nat), i = .int .i64 k ∧ k + gh = l.length ∧ k ≤ m.length ∧ Hid (R = cmpT (l.drop k) (m.drop k)) ∧ Ext w wr)
  case atStart => exact ⟨0, rfl, by omega, Nat.zero_le _, by simpa using hR, g2.grown⟩
  case round =>
    obtain ⟨k, rfl, hk, hkm, hRk, hX⟩ := hrel
    clear hR h1 h2 hX0
    by_cases hlt : k < l.length ∧ k < m.length
    · obtain ⟨hlt1, hlt2⟩ := hlt
      obtain ⟨x, hx⟩ : ∃ x, l[k]? = some x := ⟨_, List.getElem?_eq_getElem hlt1⟩
      obtain ⟨y, hy⟩ : ∃ y, m[k]? = some y := ⟨_, List.getElem?_eq_getElem hlt2⟩
      obtain ⟨b, o, rfl, -, hb, c0, c1, c2⟩ := hat.out k x hx
      obtain ⟨b', o', rfl, -, hb', d0, d1, d2⟩ := hbt.out k y hy
      have k0 := cell_later hX c0
      have k1 := cell_later hX c1
      have k2 := cell_later hX c2
      have j0 := cell_later hX d0
      have j1 := cell_later hX d1
      have j2 := cell_later hX d2
      haveI : In b wr := ⟨block_lt_of_cell k0⟩
      haveI : In b' wr := ⟨block_lt_of_cell j0⟩
      have hR2 := hRk.out
      rw [drop_cons hx, drop_cons hy] at hR2
      simp only [cmpT] at hR2
      have hxm := hma.out x (List.mem_of_getElem? hx)
      have hym := hmb.out y (List.mem_of_getElem? hy)
      have hz := cmpV_zero hxm hym
      obtain ⟨xk, xn, xs⟩ := x
      obtain ⟨yk, yn, ys⟩ := y
      have hc := hide (fun w => refCompare_c xk xn yk yn xs ys w)
      clear c0 c1 c2 d0 d1 d2 hat hbt hx hy hxm hym hma hmb hRk
      by_cases hxy : (xk, xn, xs) = (yk, yn, ys)
      · rw [if_pos hxy] at hR2
        rw [hz.2 hxy] at hc
        replace hR2 := hide hR2
        clear hz hxy
        go_wp2_with fail
        refine wp_region_gw (by kernel_rfl) (by kernel_rfl) ?_
        repeat (go_big_quiet_step ((go_at_call 127; with_reducible exact quiet_gw (hc.out _))))
        refine wpQuiet_nil ?_
        intro g4
        go_wp2_with fail
        go_roundg (l.length - (k + 1))
        case measure => omega
        case rel => exact ⟨k + 1, by go_num, by omega, by omega, hR2, hX.trans g4.grown⟩
      · rw [if_neg hxy] at hR2
        have hne : (cmpV (xk, xn, xs) (yk, yn, ys) != 0) = true := by rw [bne_iff_ne]; exact fun h => hxy (hz.1 h)
        generalize cmpV (xk, xn, xs) (yk, yn, ys) = c at *
        replace hR2 := hide hR2
        clear hz hxy
        go_wp2_with fail
        refine wp_region_gw (by kernel_rfl) (by kernel_rfl) ?_
        repeat (go_big_quiet_step ((go_at_call 127; with_reducible exact quiet_gw (hc.out _))))
        refine wpQuiet_nil ?_
        intro g4
        go_wp2_with fail
        go_returns
        exact ⟨by rw [hR2.out]; rfl, hX.trans g4.grown⟩
    · have hR2 := hRk.out
      rcases Nat.lt_trichotomy l.length m.length with h | h | h
      · have hkl : k = l.length := by omega
        have e : cmpT (l.drop k) (m.drop k) = -1 := by
          obtain ⟨y, hy⟩ : ∃ y, m[k]? = some y := ⟨_, List.getElem?_eq_getElem (by omega)⟩
          rw [drop_cons hy, List.drop_eq_nil_of_le (by omega)]; rfl
        rw [e] at hR2
        replace hR2 := hide hR2
        have hI1 : (l.length : Int) < m.length := by omega
        have hI2 : (l.length : Int) ≤ k := by omega
        clear e hRk
        replace hkl := hide hkl
        go_wp2_with fail
        go_returns
        exact ⟨by rw [hR2.out]; rfl, hX⟩
      · have hkl : k = l.length := by omega
        have e : cmpT (l.drop k) (m.drop k) = 0 := by
          rw [List.drop_eq_nil_of_le (by omega), List.drop_eq_nil_of_le (by omega)]; rfl
        rw [e] at hR2
        replace hR2 := hide hR2
        have hI1 : ¬ (l.length : Int) < m.length := by omega
        have hI3 : ¬ (m.length : Int) < l.length := by omega
        have hI2 : (l.length : Int) ≤ k := by omega
        clear e hRk
        replace hkl := hide hkl
        replace h := hide h
        go_wp2_with fail
        go_returns
        exact ⟨by rw [hR2.out]; rfl, hX⟩
      · have hkl : k = m.length := by omega
        have e : cmpT (l.drop k) (m.drop k) = 1 := by
          obtain ⟨y, hy⟩ : ∃ y, l[k]? = some y := ⟨_, List.getElem?_eq_getElem (by omega)⟩
          have e3 : m.drop k = [] := List.drop_eq_nil_of_le (by omega)
          rw [drop_cons hy, e3]; rfl
        rw [e] at hR2
        replace hR2 := hide hR2
        have hI1 : ¬ (l.length : Int) < m.length := by omega
        have hI3 : (m.length : Int) < l.length := by omega
        have hI2 : (m.length : Int) ≤ k := by omega
        have hI4 : (k : Int) < l.length := by omega
        clear e hRk
        replace hkl := hide hkl
        go_wp2_with fail
        go_returns
        exact ⟨by rw [hR2.out]; rfl, hX⟩
end
end Go.Proofs.YtljkneajdndgjabGreat
