/-
  A helper of ours: no claim of its own. XRowD again, of Compare alone, over the worlds of XDrGw.
-/
import Derived.Test.YtljkneajdndgjabGreatDrValB
set_option linter.unusedVariables false
set_option linter.unusedSimpArgs false
namespace Go.Proofs.YtljkneajdndgjabGreat.Dr
open Go.RowKit
attribute [local go_sem] GW.cell GW.frozen In.eq_true In.le_true In.ne In.ne' In.ne_add In.ne_add' In.lt_add Upto.le_true Upto.le_add Upto.lt_add
set_option maxHeartbeats 1000000 in
theorem isNone_c (x : Vl) (w : World) : Calls Tryz.prog 97 #[val x.1 x.2.1 x.2.2] w fun e w' => e = .returned (.bool (!may x)) ∧ Ext w w' := by
  have hm := hide (fun w => may_c x.1 x.2.1 x.2.2 w)
  have e : mayB x.1 x.2.1 x.2.2 = may x := rfl
  rw [e] at hm
  generalize may x = m at *
  obtain ⟨k, n, s⟩ := x
  clear e
  go_enter Tryz.func97, Tryz.ntmps97
  go_wp2_with (go_at_call 134; with_reducible refine seq_gw (hm.out _) ?_; intro g)
  go_returns
  exact ⟨rfl, ((Ext.refl w).alloc _).trans g.grown⟩
set_option maxHeartbeats 2000000 in
theorem indexFunc_c (l : List Vl) (v : Value) (w : World) (h : Rw w [] v l) : Calls Tryz.prog 133 #[v, .func (.func 97) #[] #[]] w fun e w' => e = .returned (.int .i64 (idxF 0 l)) ∧ Ext w w' := by
  obtain ⟨A, cap, rfl, hl, hm, hat⟩ := rw_form h
  unfold maxLen at hm
  replace hat := hide hat
  clear h
  obtain ⟨R, hR⟩ : ∃ R, R = idxF 0 l := ⟨_, rfl⟩
  rw [← hR]
  replace hR := hide hR
  go_enter Tryz.func133, Tryz.ntmps133
  go_wp2_with fail
  go_loopg [8] l.length (fun gh i wr => ∃ (k : Nat), i = .int .i64 k ∧ k + gh = l.length ∧ Hid (R = idxF k (l.drop k)) ∧ Ext w wr)
  case atStart => exact ⟨0, rfl, by omega, by simpa using hR, Ext.refl w⟩
  case round =>
    obtain ⟨k, rfl, hk, hRk, hX⟩ := hrel
    clear hR
    by_cases hlt : k < l.length
    · obtain ⟨x, hx⟩ : ∃ x, l[k]? = some x := ⟨_, List.getElem?_eq_getElem hlt⟩
      obtain ⟨b, o, rfl, -, hb, c0, c1, c2⟩ := hat.out k x hx
      have k0 := cell_later hX c0
      have k1 := cell_later hX c1
      have k2 := cell_later hX c2
      have hbr : b < wr.heap.size := block_lt_of_cell k0
      have hin := hide (fun w => isNone_c x w)
      have hR2 := hRk.out
      rw [drop_cons hx] at hR2
      simp only [idxF] at hR2
      replace hR2 := hide hR2
      obtain ⟨xk, xn, xs⟩ := x
      clear c0 c1 c2 hat hx
      cases hmx : may (xk, xn, xs)
      · rw [hmx] at hin hR2
        replace hmx := hide hmx
        go_wp2_with (go_at_call 97; (with_reducible refine seq_gw (hin.out _) ?_); intro g)
        go_returns
        exact ⟨by rw [hR2.out]; rfl, hX.trans g.grown⟩
      · rw [hmx] at hin hR2
        replace hmx := hide hmx
        go_wp2_with (go_at_call 97; (with_reducible refine seq_gw (hin.out _) ?_); intro g)
        go_roundg (l.length - (k + 1))
        case measure => omega
        case rel => exact ⟨k + 1, by go_num, by omega, hR2, hX.trans g.grown⟩
    · have hk' : k = l.length := by omega
      have hge : (l.length : Int) ≤ k := by omega
      have hR2 := hRk.out
      rw [hk', List.drop_length] at hR2
      replace hR2 := hide hR2
      replace hk' := hide hk'
      go_wp2_with fail
      go_returns
      exact ⟨by rw [hR2.out]; rfl, hX⟩
set_option maxHeartbeats 1000000 in
theorem containsFunc_c (l : List Vl) (v : Value) (w : World) (h : Rw w [] v l) : Calls Tryz.prog 96 #[v, .func (.func 97) #[] #[]] w fun e w' => e = .returned (.bool (!l.all may)) ∧ Ext w w' := by
  have hc := hide (indexFunc_c l v w h)
  have e := hide (idxF_ge 0 l)
  generalize idxF 0 l = z at *
  generalize l.all may = m at *
  clear h
  go_enter Tryz.func96, Tryz.ntmps96
  go_wp2_with (go_at_call 133; (with_reducible refine seq_gw hc.out ?_); intro g)
  go_returns
  exact ⟨by rw [← e.out]; rfl, g.grown⟩
set_option maxHeartbeats 1000000 in
theorem rowMay_c (l : List Vl) (v : Value) (w : World) (h : Rw w [] v l) : Calls Tryz.prog 53 #[v] w fun e w' => e = .returned (.bool (mayR l)) ∧ Ext w w' := by
  have hc := hide (containsFunc_c l v w h)
  obtain ⟨A, cap, rfl, hl, hm, -⟩ := rw_form h
  clear h
  by_cases h8 : l.length ≤ 8
  · have e : mayR l = l.all may := by unfold mayR; rw [decide_eq_true h8, Bool.true_and]
    rw [e]
    generalize l.all may = m at *
    have h8' : (l.length : Int) ≤ 8 := by omega
    clear e
    go_enter Tryz.func53, Tryz.ntmps53
    go_wp2_with (go_at_call 96; (with_reducible refine seq_gw hc.out ?_); intro g)
    go_returns
    exact ⟨by simp, g.grown⟩
  · have e : mayR l = false := by unfold mayR; rw [decide_eq_false h8, Bool.false_and]
    rw [e]
    have h8' : decide ((l.length : Int) ≤ 8) = false := by rw [decide_eq_false_iff_not]; omega
    clear e h8
    go_enter Tryz.func53, Tryz.ntmps53
    go_wp2_with fail
    go_returns
    exact ⟨rfl, Ext.refl w⟩
end Go.Proofs.YtljkneajdndgjabGreat.Dr
set_option linter.unusedVariables false
set_option linter.unusedSimpArgs false
namespace Go.Proofs.YtljkneajdndgjabGreat.Dr
open Go.RowKit
attribute [local go_sem] GW.cell GW.frozen In.eq_true In.le_true In.ne In.ne' In.ne_add In.ne_add' In.lt_add Upto.le_true Upto.le_add Upto.lt_add
theorem nanI_c (n : Int) (w : World) : Calls Tryz.prog 166 #[.int .i64 n] w fun e w' => e = .returned (.bool false) ∧ Ext w w' := by
  go_enter Tryz.func166, Tryz.ntmps166
  go_wp2_with fail
  go_returns
  exact ⟨rfl, Ext.refl w⟩
set_option maxHeartbeats 1000000 in
theorem cmpInt_c (n m : Int) (w : World) : Calls Tryz.prog 141 #[.int .i64 n, .int .i64 m] w fun e w' => e = .returned (.int .i64 (cmpN n m)) ∧ Ext w w' := by
  obtain ⟨r, hr⟩ : ∃ r, r = cmpN n m := ⟨_, rfl⟩
  rw [← hr]
  unfold cmpN at hr
  by_cases h1 : n < m
  · rw [if_pos h1] at hr
    subst hr
    go_enter Tryz.func141, Tryz.ntmps141
    go_wp2_with (go_at_call 166; (first | (with_reducible refine seq_gw' (nanI_c _ _) ?_) | (with_reducible refine seq_gw (nanI_c _ _) ?_)); intro g)
    go_returns
    exact ⟨rfl, g.grown⟩
  · by_cases h2 : m < n
    · rw [if_neg h1, if_pos h2] at hr
      subst hr
      go_enter Tryz.func141, Tryz.ntmps141
      go_wp2_with (go_at_call 166; (first | (with_reducible refine seq_gw' (nanI_c _ _) ?_) | (with_reducible refine seq_gw (nanI_c _ _) ?_)); intro g)
      go_returns
      exact ⟨rfl, g.grown⟩
    · rw [if_neg h1, if_neg h2] at hr
      subst hr
      have e : n = m := by omega
      subst e
      go_enter Tryz.func141, Tryz.ntmps141
      go_wp2_with (go_at_call 166; (first | (with_reducible refine seq_gw' (nanI_c _ _) ?_) | (with_reducible refine seq_gw (nanI_c _ _) ?_)); intro g)
      go_returns
      exact ⟨rfl, g.grown⟩
section
variable {l m : List Vl} {v u : Value} {w : World}
set_option maxHeartbeats 2000000 in
set_option maxRecDepth 100000 in
theorem differ_c {ba bb : Nat} (hl : Rw w [] v l) (hm : Rw w [] u m) (oa : Ob w ba 33 [v]) (ob : Ob w bb 33 [u]) (k : Nat) (x y : Vl) (hx : l[k]? = some x) (hy : m[k]? = some y) :
    Calls Tryz.prog 140 #[.int .i64 k, .pointer (some ⟨ba, 0, none⟩), .pointer (some ⟨bb, 0, none⟩)] w fun e w' => e = .returned (.bool (!decide (x = y))) ∧ Ext w w' := by
  obtain ⟨A, cap, rfl, hlc, hlm, hat⟩ := rw_form hl
  obtain ⟨B, cap2, rfl, hmc, hmm, hbt⟩ := rw_form hm
  unfold maxLen at hlm hmm
  obtain ⟨b, o, rfl, -, hb, k0, k1, k2⟩ := hat k x hx
  obtain ⟨b', o', rfl, -, hb', j0, j1, j2⟩ := hbt k y hy
  have hkl : k < l.length := (List.getElem?_eq_some_iff.1 hx).1
  have hkm : k < m.length := (List.getElem?_eq_some_iff.1 hy).1
  have q0 := oa.cell 0 rfl
  have q1 := ob.cell 0 rfl
  have hba := oa.lt
  have hbb := ob.lt
  obtain ⟨xk, xn, xs⟩ := x
  obtain ⟨yk, yn, ys⟩ := y
  clear hl hm hat hbt hx hy oa ob
  by_cases hxy : (xk, xn, xs) = (yk, yn, ys)
  · cases hxy
    rw [decide_eq_true rfl]
    have hns := neq_same xk xn xs
    go_enter Tryz.func140, Tryz.ntmps140
    go_wp2_with fail
    go_quiet (fail)
    go_wp2_with fail
    go_returns
    exact ⟨rfl, (Ext.refl w).drewN _⟩
  · rw [decide_eq_false hxy]
    have hns := neq_other hxy
    replace hxy := hide hxy
    go_enter Tryz.func140, Tryz.ntmps140
    go_wp2_with fail
    go_quiet (fail)
    go_wp2_with fail
    go_returns
    exact ⟨rfl, (Ext.refl w).drewN _⟩
set_option maxHeartbeats 2000000 in
set_option maxRecDepth 100000 in
theorem first_c {ba bb : Nat} (hl : Rw w [] v l) (hm : Rw w [] u m) (oa : Ob w ba 33 [v]) (ob : Ob w bb 33 [u]) (n : Nat) (hn : n = min l.length m.length) :
    Calls Tryz.prog 139 #[.int .i64 n, .func (.func 140) #[] #[.pointer (some ⟨ba, 0, none⟩), .pointer (some ⟨bb, 0, none⟩)]] w fun e w' => e = .returned (.int .i64 (pre l m : Nat)) ∧ Ext w w' := by
  have hmx : n ≤ 9223372036854775807 := by have := hl.le; unfold maxLen at this; omega
  have hd : Hid (∀ wr, Ext w wr → ∀ (k : Nat) (x y : Vl), l[k]? = some x → m[k]? = some y → Calls Tryz.prog 140 #[.int .i64 k, .pointer (some ⟨ba, 0, none⟩), .pointer (some ⟨bb, 0, none⟩)] wr fun e w' => e = .returned (.bool (!decide (x = y))) ∧ Ext wr w') :=
    fun wr hX k x y hx hy => differ_c (Sl.ext hl hX) (Sl.ext hm hX) (oa.ext hX) (ob.ext hX) k x y hx hy
  obtain ⟨R, hR⟩ : ∃ R, R = pre l m := ⟨_, rfl⟩
  rw [← hR]
  replace hR := hide hR
  replace hn := hide hn
  clear hl hm oa ob
  go_enter Tryz.func139, Tryz.ntmps139
  go_wp2_with fail
  go_loopg [7] n (fun gh i wr => ∃ (k : Nat), i = .int .i64 k ∧ k + gh = n ∧ Hid (R = k + pre (l.drop k) (m.drop k)) ∧ Ext w wr)
  case atStart => exact ⟨0, rfl, by omega, (by show R = 0 + pre (l.drop 0) (m.drop 0); rw [hR.out]; simp), Ext.refl w⟩
  case round =>
    obtain ⟨k, rfl, hk, hRk, hX⟩ := hrel
    clear hR
    by_cases hlt : k < n
    · obtain ⟨x, hx⟩ : ∃ x, l[k]? = some x := ⟨_, List.getElem?_eq_getElem (by have := hn.out; omega)⟩
      obtain ⟨y, hy⟩ : ∃ y, m[k]? = some y := ⟨_, List.getElem?_eq_getElem (by have := hn.out; omega)⟩
      have hR2 := hRk.out
      rw [drop_cons hx, drop_cons hy] at hR2
      simp only [pre] at hR2
      have hc := hide (hd.out wr hX k x y hx hy)
      clear hx hy hd hRk
      by_cases hxy : x = y
      · rw [if_pos hxy] at hR2
        rw [decide_eq_true hxy] at hc
        replace hxy := hide hxy
        replace hR2 := hide (show R = (k + 1) + pre (l.drop (k + 1)) (m.drop (k + 1)) by omega)
        go_wp2_with (go_at_call 140; (with_reducible refine seq_gw hc.out ?_); intro g)
        go_roundg (n - (k + 1))
        case measure => omega
        case rel => exact ⟨k + 1, by go_num, by omega, hR2, hX.trans g.grown⟩
      · rw [if_neg hxy] at hR2
        rw [decide_eq_false hxy] at hc
        replace hxy := hide hxy
        replace hR2 := hide hR2
        go_wp2_with (go_at_call 140; (with_reducible refine seq_gw hc.out ?_); intro g)
        go_returns
        exact ⟨by rw [hR2.out]; rfl, hX.trans g.grown⟩
    · have hge : (n : Int) ≤ k := by omega
      have hR2 := hRk.out
      have hp : pre (l.drop k) (m.drop k) = 0 := by
        have h1 := pre_le (l.drop k) (m.drop k)
        rw [List.length_drop, List.length_drop] at h1
        have := hn.out
        omega
      have hkn : k = n := by omega
      rw [hp, hkn] at hR2
      replace hR2 := hide hR2
      replace hkn := hide hkn
      clear hp
      go_wp2_with fail
      go_returns
      exact ⟨by rw [hR2.out]; rfl, hX⟩
end
end Go.Proofs.YtljkneajdndgjabGreat.Dr
set_option linter.unusedVariables false
set_option linter.unusedSimpArgs false
namespace Go.Proofs.YtljkneajdndgjabGreat.Dr
open Go.RowKit
attribute [local go_sem] GW.cell GW.frozen In.eq_true In.le_true In.ne In.ne' In.ne_add In.ne_add' In.lt_add Upto.le_true Upto.le_add Upto.lt_add
section
variable {l m : List Vl} {v u : Value} {w : World}
set_option maxHeartbeats 2000000 in
set_option maxRecDepth 100000 in
theorem rowCompareNo_c (hl : Rw w [] v l) (hm : Rw w [] u m) (h : (mayR l && mayR m) = false) : Calls Tryz.prog 112 #[v, u] w fun e w' => e = .returned (.int .i64 0) ∧ Ext w w' := by
  have h1 := hide (fun w' (hX : Ext w w') => rowMay_c l v w' (Sl.ext hl hX))
  have h2 := hide (fun w' (hX : Ext w w') => rowMay_c m u w' (Sl.ext hm hX))
  obtain ⟨A, cap, rfl, -, -, -⟩ := rw_form hl
  obtain ⟨B, cap2, rfl, -, -, -⟩ := rw_form hm
  have hX0 := hide (((Ext.refl w).alloc (bxR (.slice A l.length cap))).alloc (bxR (.slice B m.length cap2)))
  clear hl hm
  cases ha : mayR l
  · rw [ha] at h1
    clear h ha
    go_enter Tryz.func112, Tryz.ntmps112
    go_wp2_with (go_at_call 53; (with_reducible refine seq_gw (h1.out _ hX0.out) ?_); intro g)
    go_returns
    exact ⟨rfl, hX0.out.trans g.grown⟩
  · rw [ha, Bool.true_and] at h
    rw [ha] at h1
    rw [h] at h2
    clear h ha
    go_enter Tryz.func112, Tryz.ntmps112
    go_wp2_with (first | (go_at_call 53; (with_reducible refine seq_gw (h1.out _ hX0.out) ?_); intro g) | (go_at_call 53; (with_reducible refine seq_gw' (h2.out _ (hX0.out.trans g.grown)) ?_); intro g2))
    go_returns
    exact ⟨rfl, hX0.out.trans g2.grown⟩
set_option maxHeartbeats 4000000 in
set_option maxRecDepth 100000 in
theorem rowCompareYes_c (hl : Rw w [] v l) (hm : Rw w [] u m) (ha : mayR l = true) (hb : mayR m = true) : Calls Tryz.prog 112 #[v, u] w fun e w' => e = .returned (.int .i64 (cmpT l m)) ∧ Ext w w' := by
  have h1 := hide (fun w' (hX : Ext w w') => rowMay_c l v w' (Sl.ext hl hX))
  have h2 := hide (fun w' (hX : Ext w w') => rowMay_c m u w' (Sl.ext hm hX))
  rw [ha] at h1
  rw [hb] at h2
  obtain ⟨A, cap, rfl, hlc, hlm, hat⟩ := rw_form hl
  obtain ⟨B, cap2, rfl, hmc, hmm, hbt⟩ := rw_form hm
  unfold maxLen at hlm hmm
  have l8 := (mayR_iff.1 ha).1
  have m8 := (mayR_iff.1 hb).1
  replace hat := hide hat
  replace hbt := hide hbt
  have hX0 := hide (((Ext.refl w).alloc (bxR (.slice A l.length cap))).alloc (bxR (.slice B m.length cap2)))
  have oa := (Ob.new w 33 [.slice A l.length cap]).alloc (bxR (.slice B m.length cap2))
  have ob : Ob ((w.alloc (bxR (.slice A l.length cap))).alloc (bxR (.slice B m.length cap2))) (w.heap.size + 1) 33 [.slice B m.length cap2] := by
    have := Ob.new (w.alloc (bxR (.slice A l.length cap))) 33 [.slice B m.length cap2]
    simpa using this
  replace oa := hide oa
  replace ob := hide ob
  have hf : Hid (∀ w', Ext ((w.alloc (bxR (.slice A l.length cap))).alloc (bxR (.slice B m.length cap2))) w' → Calls Tryz.prog 139 #[.int .i64 (min l.length m.length : Nat), .func (.func 140) #[] #[.pointer (some ⟨w.heap.size, 0, none⟩), .pointer (some ⟨w.heap.size + 1, 0, none⟩)]] w' fun e w'' => e = .returned (.int .i64 (pre l m : Nat)) ∧ Ext w' w'') :=
    fun w' hX => first_c (Sl.ext hl (hX0.out.trans hX)) (Sl.ext hm (hX0.out.trans hX)) (oa.out.ext hX) (ob.out.ext hX) _ rfl
  have hpl := pre_le l m
  by_cases hlt : m.length < l.length
  · have e0 : min l.length m.length = m.length := by omega
    rw [e0] at hf
    have hI : (m.length : Int) < l.length := by omega
    by_cases hp : pre l m = m.length
    · have hce := cmpT_end l m (by rw [e0]; exact hp)
      rw [hce]
      rw [hp] at hf
      have hc := hide (fun w => cmpInt_c l.length m.length w)
      clear hce hp e0 hlt hat hbt hpl ha hb oa ob hl hm
      go_enter Tryz.func112, Tryz.ntmps112
      go_wp2_with (first | (go_at_call 53; (with_reducible refine seq_gw (h1.out _ hX0.out) ?_); intro g) | (go_at_call 53; (with_reducible refine seq_gw' (h2.out _ (hX0.out.trans g.grown)) ?_); intro g2) | (go_at_call 139; (with_reducible refine seq_gw' (hf.out _ g2.grown) ?_); intro g3) | (go_at_call 141; (with_reducible refine seq_gw' (hc.out _) ?_); intro g4))
      go_returns
      exact ⟨rfl, hX0.out.trans g4.grown⟩
    · obtain ⟨x, hx⟩ : ∃ x, l[pre l m]? = some x := ⟨_, List.getElem?_eq_getElem (by omega)⟩
      obtain ⟨y, hy⟩ : ∃ y, m[pre l m]? = some y := ⟨_, List.getElem?_eq_getElem (by omega)⟩
      have hcd := cmpT_diff l m x y hx hy
      rw [hcd]
      obtain ⟨b, o, rfl, -, hb1, c0, c1, c2⟩ := hat.out _ x hx
      obtain ⟨b', o', rfl, -, hb2, d0, d1, d2⟩ := hbt.out _ y hy
      obtain ⟨xk, xn, xs⟩ := x
      obtain ⟨yk, yn, ys⟩ := y
      have hc := hide (fun w => compare_c xk xn yk yn xs ys w)
      have hpb : (((pre l m : Nat) : Int) == m.length) = false := by rw [beq_eq_false_iff_ne]; omega
      have hp1 : pre l m < l.length := by omega
      have hp2 : pre l m < m.length := by omega
      haveI : In b w := ⟨hb1⟩
      haveI : In b' w := ⟨hb2⟩
      generalize pre l m = q at *
      clear hcd hp e0 hlt hat hbt hx hy hpl ha hb oa ob hl hm
      go_enter Tryz.func112, Tryz.ntmps112
      go_wp2_with (first | (go_at_call 53; (with_reducible refine seq_gw (h1.out _ hX0.out) ?_); intro g) | (go_at_call 53; (with_reducible refine seq_gw' (h2.out _ (hX0.out.trans g.grown)) ?_); intro g2) | (go_at_call 139; (with_reducible refine seq_gw' (hf.out _ g2.grown) ?_); intro g3))
      refine wp_region_gw (by kernel_rfl) (by kernel_rfl) ?_
      repeat (go_big_quiet_step ((go_at_call 142; with_reducible exact quiet_gw (hc.out _))))
      refine wpQuiet_nil ?_
      intro g4
      go_wp2_with fail
      go_returns
      exact ⟨rfl, hX0.out.trans (g3.grown.trans g4.grown)⟩
  · have e0 : min l.length m.length = l.length := by omega
    rw [e0] at hf
    have hI : ¬ (m.length : Int) < l.length := by omega
    by_cases hp : pre l m = l.length
    · have hce := cmpT_end l m (by rw [e0]; exact hp)
      rw [hce]
      rw [hp] at hf
      have hc := hide (fun w => cmpInt_c l.length m.length w)
      clear hce hp e0 hlt hat hbt hpl ha hb oa ob hl hm
      go_enter Tryz.func112, Tryz.ntmps112
      go_wp2_with (first | (go_at_call 53; (with_reducible refine seq_gw (h1.out _ hX0.out) ?_); intro g) | (go_at_call 53; (with_reducible refine seq_gw' (h2.out _ (hX0.out.trans g.grown)) ?_); intro g2) | (go_at_call 139; (with_reducible refine seq_gw' (hf.out _ g2.grown) ?_); intro g3) | (go_at_call 141; (with_reducible refine seq_gw' (hc.out _) ?_); intro g4))
      go_returns
      exact ⟨rfl, hX0.out.trans g4.grown⟩
    · obtain ⟨x, hx⟩ : ∃ x, l[pre l m]? = some x := ⟨_, List.getElem?_eq_getElem (by omega)⟩
      obtain ⟨y, hy⟩ : ∃ y, m[pre l m]? = some y := ⟨_, List.getElem?_eq_getElem (by omega)⟩
      have hcd := cmpT_diff l m x y hx hy
      rw [hcd]
      obtain ⟨b, o, rfl, -, hb1, c0, c1, c2⟩ := hat.out _ x hx
      obtain ⟨b', o', rfl, -, hb2, d0, d1, d2⟩ := hbt.out _ y hy
      obtain ⟨xk, xn, xs⟩ := x
      obtain ⟨yk, yn, ys⟩ := y
      have hc := hide (fun w => compare_c xk xn yk yn xs ys w)
      have hpb : (((pre l m : Nat) : Int) == l.length) = false := by rw [beq_eq_false_iff_ne]; omega
      have hp1 : pre l m < l.length := by omega
      have hp2 : pre l m < m.length := by omega
      haveI : In b w := ⟨hb1⟩
      haveI : In b' w := ⟨hb2⟩
      generalize pre l m = q at *
      clear hcd hp e0 hlt hat hbt hx hy hpl ha hb oa ob hl hm
      go_enter Tryz.func112, Tryz.ntmps112
      go_wp2_with (first | (go_at_call 53; (with_reducible refine seq_gw (h1.out _ hX0.out) ?_); intro g) | (go_at_call 53; (with_reducible refine seq_gw' (h2.out _ (hX0.out.trans g.grown)) ?_); intro g2) | (go_at_call 139; (with_reducible refine seq_gw' (hf.out _ g2.grown) ?_); intro g3))
      refine wp_region_gw (by kernel_rfl) (by kernel_rfl) ?_
      repeat (go_big_quiet_step ((go_at_call 142; with_reducible exact quiet_gw (hc.out _))))
      refine wpQuiet_nil ?_
      intro g4
      go_wp2_with fail
      go_returns
      exact ⟨rfl, hX0.out.trans (g3.grown.trans g4.grown)⟩
theorem rowCompare_c (hl : Rw w [] v l) (hm : Rw w [] u m) : Calls Tryz.prog 112 #[v, u] w fun e w' => e = .returned (.int .i64 (cmpR l m)) ∧ Ext w w' := by
  cases h : (mayR l && mayR m)
  · rw [show cmpR l m = 0 by unfold cmpR; rw [h]; rfl]
    exact rowCompareNo_c hl hm h
  · rw [show cmpR l m = cmpT l m by unfold cmpR; rw [h]; rfl]
    rw [Bool.and_eq_true] at h
    exact rowCompareYes_c hl hm h.1 h.2
end
end Go.Proofs.YtljkneajdndgjabGreat.Dr
