/-
  A helper of ours: no claim of its own. Which rows fit a schema, on both sides (cut out of XSchI, for seats without rows written).
-/
import Derived.Test.YtkfdkjjocdbolaaSchG
import Derived.Test.YtkfdkjjocdbolaaReg3
set_option linter.unusedVariables false
set_option linter.unusedSimpArgs false
namespace Go.Proofs.Ytkfdkjjocdbolaa
open Go.RowKit
attribute [local go_sem] GW.cell GW.frozen In.eq_true In.le_true In.ne In.ne' In.ne_add In.ne_add' In.lt_add Upto.le_true Upto.le_add Upto.lt_add
/-- Does the row fit? -/
def fitsS (l : List Cl) (r : List Vl) : Bool := mayS l && (mayR r && eqP (fun (x : Cl) (y : Vl) => x.2 == y.1) l r)
set_option maxHeartbeats 4000000 in
set_option maxRecDepth 100000 in
theorem refFitsL_c {l : List Cl} {m : List Vl} {v u : Value} {w : World} (hl : Cw w [] v l) (hm : Rw w [] u m) (ha : mayS l = true) (hb : mayR m = true) : Calls Try.prog 5 #[v, u] w fun e w' => e = .returned (.bool (eqP (fun (x : Cl) (y : Vl) => x.2 == y.1) l m)) ∧ Ext w w' := by
  have h1 := hide (refMayS_c l v w hl)
  rw [ha] at h1
  have h2 := hide (fun w' (hX : Ext w w') => refRowMay_c m u w' (Sl.ext hm hX))
  rw [hb] at h2
  clear ha hb
  obtain ⟨A, cap, rfl, hlc, hlm, hat⟩ := cw_form hl
  obtain ⟨B, cap2, rfl, hmc, hmm, hbt⟩ := rw_form hm
  unfold maxLen at hlm hmm
  clear hl hm
  replace hat := hide hat
  replace hbt := hide hbt
  obtain ⟨R, hR⟩ : ∃ R, R = eqP (fun (x : Cl) (y : Vl) => x.2 == y.1) l m := ⟨_, rfl⟩
  rw [← hR]
  by_cases hn : l.length = m.length
  · replace hR := hide hR
    obtain ⟨n, hln⟩ : ∃ n, n = l.length := ⟨_, rfl⟩
    have hmn : n = m.length := by omega
    rw [← hln] at hlc h1 ⊢
    rw [← hmn] at hmc h2 ⊢
    have hlI := hide hln
    have hmI := hide hmn
    clear hn hln hmn
    go_enter Try.func5, Try.ntmps5
    go_wp2_with (first | (go_at_call 14; (with_reducible refine seq_gw h1.out ?_); intro g) | (go_at_call 15; (with_reducible refine seq_gw' (h2.out _ g.grown) ?_); intro g2))
    go_loopg [5] n (fun gh i wr => ∃ (k : Nat), i = .int .i64 k ∧ k + gh = n ∧ Hid (R = eqP (fun (x : Cl) (y : Vl) => x.2 == y.1) (l.drop k) (m.drop k)) ∧ Ext w wr)
    case atStart => exact ⟨0, rfl, by omega, hR, g2.grown⟩
    case round =>
      obtain ⟨k, rfl, hk, hRk, hX⟩ := hrel
      clear hR
      by_cases hlt : k < n
      · obtain ⟨x, hx⟩ : ∃ x, l[k]? = some x := ⟨_, List.getElem?_eq_getElem (by have := hlI.out; omega)⟩
        obtain ⟨y, hy⟩ : ∃ y, m[k]? = some y := ⟨_, List.getElem?_eq_getElem (by have := hmI.out; omega)⟩
        obtain ⟨b, o, rfl, -, hb, c0, c1⟩ := hat.out k x hx
        obtain ⟨b', o', rfl, -, hb', d0, d1, d2⟩ := hbt.out k y hy
        have k0 := cell_later hX c0
        have k1 := cell_later hX c1
        have j0 := cell_later hX d0
        have j1 := cell_later hX d1
        have j2 := cell_later hX d2
        have hbr : b < wr.heap.size := block_lt_of_cell k0
        have hbr' : b' < wr.heap.size := block_lt_of_cell j0
        have hR2 := hRk.out
        rw [drop_cons hx, drop_cons hy] at hR2
        obtain ⟨xn, xk⟩ := x
        obtain ⟨yk, yv, yn⟩ := y
        clear c0 c1 d0 d1 d2 hat hbt hx hy hlI hmI hRk
        by_cases hxy : xk = yk
        · rw [eqP_yes (p := (fun (x : Cl) (y : Vl) => x.2 == y.1)) (x := (xn, xk)) (y := (yk, yv, yn)) (by simp [hxy])] at hR2
          replace hR2 := hide hR2
          subst hxy
          go_wp2_with fail
          go_quiet (fail)
          go_wp2_with fail
          go_roundg (n - (k + 1))
          case measure => omega
          case rel => exact ⟨k + 1, by go_num, by omega, hR2, hX.drewN _⟩
        · rw [eqP_no (p := (fun (x : Cl) (y : Vl) => x.2 == y.1)) (x := (xn, xk)) (y := (yk, yv, yn)) (by simp [hxy])] at hR2
          replace hR2 := hide hR2
          have hns : (xk == yk) = false := by rw [beq_eq_false_iff_ne]; exact hxy
          replace hxy := hide hxy
          go_wp2_with fail
          go_quiet (fail)
          go_wp2_with fail
          go_returns
          exact ⟨by rw [hR2.out]; rfl, hX.drewN _⟩
      · have hk' : k = n := by omega
        have hge : (n : Int) ≤ k := by omega
        have hR2 := hRk.out
        rw [List.drop_eq_nil_of_le (by have := hlI.out; omega), List.drop_eq_nil_of_le (by have := hmI.out; omega)] at hR2
        replace hR2 : R = true := hR2
        replace hR2 := hide hR2
        replace hk' := hide hk'
        go_wp2_with fail
        go_returns
        exact ⟨by rw [hR2.out]; rfl, hX⟩
  · have hR2 := hR.trans (eqP_len hn)
    replace hR2 := hide hR2
    have hnI : ¬ (l.length : Int) = m.length := by omega
    clear hR hn
    go_enter Try.func5, Try.ntmps5
    go_wp2_with (first | (go_at_call 14; (with_reducible refine seq_gw h1.out ?_); intro g) | (go_at_call 15; (with_reducible refine seq_gw' (h2.out _ g.grown) ?_); intro g2))
    go_returns
    exact ⟨by rw [hR2.out]; rfl, g2.grown⟩
set_option maxHeartbeats 2000000 in
theorem fitsS_c {l : List Cl} {m : List Vl} {v u : Value} {w : World} (hl : Cw w [] v l) (hm : Rw w [] u m) : Calls Try.prog 45 #[v, u] w fun e w' => e = .returned (.bool (fitsS l m)) ∧ Ext w w' := by
  have hl' := hl
  have hm' := hm
  have h1 := hide (mayS_c l v w hl)
  have h2 := hide (fun w' (hX : Ext w w') => rowMay_c m u w' (Sl.ext hm hX))
  obtain ⟨A, cap, rfl, hlc, hlm, -⟩ := cw_form hl
  obtain ⟨B, cap2, rfl, hmc, hmm, -⟩ := rw_form hm
  unfold fitsS
  cases ha : mayS l
  · rw [ha] at h1
    rw [Bool.false_and]
    clear ha hl hm hl' hm' h2
    go_enter Try.func45, Try.ntmps45
    go_wp2_with (go_at_call 16; (with_reducible refine seq_gw h1.out ?_); intro g)
    go_returns
    exact ⟨rfl, g.grown⟩
  cases hb : mayR m
  · rw [ha] at h1
    rw [hb] at h2
    rw [Bool.false_and, Bool.and_false]
    clear ha hb hl hm hl' hm'
    go_enter Try.func45, Try.ntmps45
    go_wp2_with (first | (go_at_call 16; (with_reducible refine seq_gw h1.out ?_); intro g) | (go_at_call 60; (with_reducible refine seq_gw' (h2.out _ g.grown) ?_); intro g2))
    go_returns
    exact ⟨rfl, g2.grown⟩
  rw [Bool.true_and, Bool.true_and]
  have he := hide (fun w' (hX : Ext w w') => equalFunc2_c (Sl.ext hl' hX) (Sl.ext hm' hX))
  rw [ha] at h1
  rw [hb] at h2
  generalize eqP (fun (x : Cl) (y : Vl) => x.2 == y.1) l m = R at *
  clear ha hb hl hm hl' hm'
  go_enter Try.func45, Try.ntmps45
  go_wp2_with (first | (go_at_call 16; (with_reducible refine seq_gw h1.out ?_); intro g) | (go_at_call 60; (with_reducible refine seq_gw' (h2.out _ g.grown) ?_); intro g2) | (go_at_call 63; (with_reducible refine seq_gw' (he.out _ g2.grown) ?_); intro g3))
  go_returns
  exact ⟨rfl, g3.grown⟩
set_option maxHeartbeats 2000000 in
theorem refFitsS_c {l : List Cl} {m : List Vl} {v u : Value} {w : World} (hl : Cw w [] v l) (hm : Rw w [] u m) : Calls Try.prog 5 #[v, u] w fun e w' => e = .returned (.bool (fitsS l m)) ∧ Ext w w' := by
  have hl' := hl
  have hm' := hm
  have h1 := hide (refMayS_c l v w hl)
  have h2 := hide (fun w' (hX : Ext w w') => refRowMay_c m u w' (Sl.ext hm hX))
  obtain ⟨A, cap, rfl, hlc, hlm, -⟩ := cw_form hl
  obtain ⟨B, cap2, rfl, hmc, hmm, -⟩ := rw_form hm
  unfold fitsS
  cases ha : mayS l
  · rw [ha] at h1
    rw [Bool.false_and]
    clear ha hl hm hl' hm' h2
    go_enter Try.func5, Try.ntmps5
    go_wp2_with (go_at_call 14; (with_reducible refine seq_gw h1.out ?_); intro g)
    go_returns
    exact ⟨rfl, g.grown⟩
  cases hb : mayR m
  · rw [ha] at h1
    rw [hb] at h2
    rw [Bool.false_and, Bool.and_false]
    clear ha hb hl hm hl' hm'
    go_enter Try.func5, Try.ntmps5
    go_wp2_with (first | (go_at_call 14; (with_reducible refine seq_gw h1.out ?_); intro g) | (go_at_call 15; (with_reducible refine seq_gw' (h2.out _ g.grown) ?_); intro g2))
    go_returns
    exact ⟨rfl, g2.grown⟩
  rw [Bool.true_and, Bool.true_and]
  exact refFitsL_c hl' hm' ha hb
end Go.Proofs.Ytkfdkjjocdbolaa
