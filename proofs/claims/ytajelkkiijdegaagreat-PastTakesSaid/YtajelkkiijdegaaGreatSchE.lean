/-
  A helper of ours: no claim of its own. Layer 7 (schema): schemas held against each other, and against rows, on both sides.
-/
import Derived.Test.YtajelkkiijdegaaGreatRowA
import Derived.Deep.LoopGhost
import Derived.BigQuiet
import Derived.Test.YtajelkkiijdegaaGreatRf
import Derived.Test.YtajelkkiijdegaaGreatSchD
set_option linter.unusedVariables false
set_option linter.unusedSimpArgs false
namespace Go.Proofs.YtajelkkiijdegaaGreat
open Go.RowKit
attribute [local go_sem] GW.cell GW.frozen In.eq_true In.le_true In.ne In.ne' In.ne_add In.ne_add' In.lt_add Upto.le_true Upto.le_add Upto.lt_add
end Go.Proofs.YtajelkkiijdegaaGreat
set_option linter.unusedVariables false
set_option linter.unusedSimpArgs false
namespace Go.Proofs.YtajelkkiijdegaaGreat
open Go.RowKit
attribute [local go_sem] GW.cell GW.frozen In.eq_true In.le_true In.ne In.ne' In.ne_add In.ne_add' In.lt_add Upto.le_true Upto.le_add Upto.lt_add
end Go.Proofs.YtajelkkiijdegaaGreat
set_option linter.unusedVariables false
set_option linter.unusedSimpArgs false
namespace Go.Proofs.YtajelkkiijdegaaGreat
open Go.RowKit
attribute [local go_sem] GW.cell GW.frozen In.eq_true In.le_true In.ne In.ne' In.ne_add In.ne_add' In.lt_add Upto.le_true Upto.le_add Upto.lt_add
theorem neq_other {k n k' m : Int} {s t : ByteArray} (h : ¬ ((k, n, s) = (k', m, t))) (w : World) : (binOp .neq 83 (val k n s) (val k' m t)).run Tryz.prog w = .ok (.bool true) w := by
  rw [neq_val]
  congr 2
  rw [Bool.not_eq_true', ← Bool.not_eq_true]
  intro h'
  simp only [Bool.and_eq_true, beq_iff_eq, toList_iff] at h'
  obtain ⟨rfl, rfl, rfl⟩ := h'
  exact h rfl
theorem cons_eq_dec {x y : Vl} (a b : List Vl) (h : x = y) : decide (x :: a = y :: b) = decide (a = b) := by
  subst h; simp
theorem cons_ne_dec {x y : Vl} (a b : List Vl) (h : ¬ x = y) : decide (x :: a = y :: b) = false := by
  rw [decide_eq_false_iff_not]; intro e; injection e with e1 _; exact h e1
section
variable {l m : List Vl} {v u : Value} {w : World}
set_option maxHeartbeats 4000000 in
set_option maxRecDepth 100000 in
theorem rowEqual_c (hl : Rw w [] v l) (hm : Rw w [] u m) : Calls Tryz.prog 185 #[v, u] w fun e w' => e = .returned (.bool (decide (l = m))) ∧ Ext w w' := by
  obtain ⟨A, cap, rfl, hlc, hlm, hat⟩ := rw_form hl
  obtain ⟨B, cap2, rfl, hmc, hmm, hbt⟩ := rw_form hm
  unfold maxLen at hlm hmm
  clear hl hm
  replace hat := hide hat
  replace hbt := hide hbt
  obtain ⟨R, hR⟩ : ∃ R, R = decide (l = m) := ⟨_, rfl⟩
  rw [← hR]
  by_cases hn : l.length = m.length
  · replace hR := hide hR
    have hnI : (l.length : Int) = m.length := by omega
    obtain ⟨n, hln⟩ : ∃ n, n = l.length := ⟨_, rfl⟩
    have hmn : n = m.length := by omega
    rw [← hln] at hlc ⊢
    rw [← hmn] at hmc ⊢
    have hlI := hide hln
    have hmI := hide hmn
    clear hn hnI hln hmn
    go_enter Tryz.func185, Tryz.ntmps185
    go_wp2_with fail
    go_loopg [13] n (fun gh i wr => ∃ (k : Nat), i = .int .i64 k ∧ k + gh = n ∧ Hid (R = decide (l.drop k = m.drop k)) ∧ Ext w wr)
    case atStart => exact ⟨0, rfl, by omega, hR, Ext.refl w⟩
    case round =>
      obtain ⟨k, rfl, hk, hRk, hX⟩ := hrel
      clear hR
      by_cases hlt : k < n
      · obtain ⟨x, hx⟩ : ∃ x, l[k]? = some x := ⟨_, List.getElem?_eq_getElem (by have := hlI.out; omega)⟩
        obtain ⟨y, hy⟩ : ∃ y, m[k]? = some y := ⟨_, List.getElem?_eq_getElem (by have := hmI.out; omega)⟩
        obtain ⟨b, o, rfl, -, hb, c0, c1, c2⟩ := hat.out k x hx
        obtain ⟨b', o', rfl, -, hb', d0, d1, d2⟩ := hbt.out k y hy
        have k0 := cell_later hX c0
        have k1 := cell_later hX c1
        have k2 := cell_later hX c2
        have j0 := cell_later hX d0
        have j1 := cell_later hX d1
        have j2 := cell_later hX d2
        have hbr : b < wr.heap.size := block_lt_of_cell k0
        have hbr' : b' < wr.heap.size := block_lt_of_cell j0
        have hR2 := hRk.out
        rw [drop_cons hx, drop_cons hy] at hR2
        obtain ⟨xk, xn, xs⟩ := x
        obtain ⟨yk, yn, ys⟩ := y
        clear c0 c1 c2 d0 d1 d2 hat hbt hx hy hlI hmI hRk
        by_cases hxy : (xk, xn, xs) = (yk, yn, ys)
        · rw [cons_eq_dec _ _ hxy] at hR2
          replace hR2 := hide hR2
          cases hxy
          have hns := neq_same xk xn xs
          go_wp2_with fail
          go_quiet (fail)
          go_wp2_with fail
          go_roundg (n - (k + 1))
          case measure => omega
          case rel => exact ⟨k + 1, by go_num, by omega, hR2, hX.drewN _⟩
        · rw [cons_ne_dec _ _ hxy] at hR2
          replace hR2 := hide hR2
          have hns := neq_other hxy
          replace hxy := hide hxy
          go_wp2_with fail
          go_quiet (fail)
          go_wp2_with fail
          go_returns
          exact ⟨by rw [hR2.out]; rfl, hX.drewN _⟩
      · have hk' : k = n := by omega
        have hge : (n : Int) ≤ k := by omega
        have hR2 := hRk.out
        rw [List.drop_eq_nil_of_le (by have := hlI.out; omega), List.drop_eq_nil_of_le (by have := hmI.out; omega)] at hR2
        replace hR2 : R = true := by simpa using hR2
        replace hR2 := hide hR2
        replace hk' := hide hk'
        go_wp2_with fail
        go_returns
        exact ⟨by rw [hR2.out]; rfl, hX⟩
  · have hR2 : R = false := by rw [hR, decide_eq_false_iff_not]; rintro rfl; exact hn rfl
    replace hR2 := hide hR2
    have hnI : ¬ (l.length : Int) = m.length := by omega
    clear hR hn
    go_enter Tryz.func185, Tryz.ntmps185
    go_wp2_with fail
    go_returns
    exact ⟨by rw [hR2.out]; rfl, Ext.refl w⟩
set_option maxHeartbeats 4000000 in
set_option maxRecDepth 100000 in
theorem refRowSame_c (hl : Rw w [] v l) (hm : Rw w [] u m) : Calls Tryz.prog 23 #[v, u] w fun e w' => e = .returned (.bool (decide (l = m))) ∧ Ext w w' := by
  obtain ⟨A, cap, rfl, hlc, hlm, hat⟩ := rw_form hl
  obtain ⟨B, cap2, rfl, hmc, hmm, hbt⟩ := rw_form hm
  unfold maxLen at hlm hmm
  clear hl hm
  replace hat := hide hat
  replace hbt := hide hbt
  obtain ⟨R, hR⟩ : ∃ R, R = decide (l = m) := ⟨_, rfl⟩
  rw [← hR]
  by_cases hn : l.length = m.length
  · replace hR := hide hR
    have hnI : (l.length : Int) = m.length := by omega
    obtain ⟨n, hln⟩ : ∃ n, n = l.length := ⟨_, rfl⟩
    have hmn : n = m.length := by omega
    rw [← hln] at hlc ⊢
    rw [← hmn] at hmc ⊢
    have hlI := hide hln
    have hmI := hide hmn
    clear hn hnI hln hmn
    go_enter Tryz.func23, Tryz.ntmps23
    go_wp2_with fail
    go_loopg [5] n (fun gh i wr => ∃ (k : Nat), i = .int .i64 k ∧ k + gh = n ∧ Hid (R = decide (l.drop k = m.drop k)) ∧ Ext w wr)
    case atStart => exact ⟨0, rfl, by omega, hR, Ext.refl w⟩
    case round =>
      obtain ⟨k, rfl, hk, hRk, hX⟩ := hrel
      clear hR
      by_cases hlt : k < n
      · obtain ⟨x, hx⟩ : ∃ x, l[k]? = some x := ⟨_, List.getElem?_eq_getElem (by have := hlI.out; omega)⟩
        obtain ⟨y, hy⟩ : ∃ y, m[k]? = some y := ⟨_, List.getElem?_eq_getElem (by have := hmI.out; omega)⟩
        obtain ⟨b, o, rfl, -, hb, c0, c1, c2⟩ := hat.out k x hx
        obtain ⟨b', o', rfl, -, hb', d0, d1, d2⟩ := hbt.out k y hy
        have k0 := cell_later hX c0
        have k1 := cell_later hX c1
        have k2 := cell_later hX c2
        have j0 := cell_later hX d0
        have j1 := cell_later hX d1
        have j2 := cell_later hX d2
        have hbr : b < wr.heap.size := block_lt_of_cell k0
        have hbr' : b' < wr.heap.size := block_lt_of_cell j0
        have hR2 := hRk.out
        rw [drop_cons hx, drop_cons hy] at hR2
        obtain ⟨xk, xn, xs⟩ := x
        obtain ⟨yk, yn, ys⟩ := y
        clear c0 c1 c2 d0 d1 d2 hat hbt hx hy hlI hmI hRk
        by_cases hxy : (xk, xn, xs) = (yk, yn, ys)
        · rw [cons_eq_dec _ _ hxy] at hR2
          replace hR2 := hide hR2
          cases hxy
          have hns := neq_same xk xn xs
          go_wp2_with fail
          go_quiet (fail)
          go_wp2_with fail
          go_roundg (n - (k + 1))
          case measure => omega
          case rel => exact ⟨k + 1, by go_num, by omega, hR2, hX.drewN _⟩
        · rw [cons_ne_dec _ _ hxy] at hR2
          replace hR2 := hide hR2
          have hns := neq_other hxy
          replace hxy := hide hxy
          go_wp2_with fail
          go_quiet (fail)
          go_wp2_with fail
          go_returns
          exact ⟨by rw [hR2.out]; rfl, hX.drewN _⟩
      · have hk' : k = n := by omega
        have hge : (n : Int) ≤ k := by omega
        have hR2 := hRk.out
        rw [List.drop_eq_nil_of_le (by have := hlI.out; omega), List.drop_eq_nil_of_le (by have := hmI.out; omega)] at hR2
        replace hR2 : R = true := by simpa using hR2
        replace hR2 := hide hR2
        replace hk' := hide hk'
        go_wp2_with fail
        go_returns
        exact ⟨by rw [hR2.out]; rfl, hX⟩
  · have hR2 : R = false := by rw [hR, decide_eq_false_iff_not]; rintro rfl; exact hn rfl
    replace hR2 := hide hR2
    have hnI : ¬ (l.length : Int) = m.length := by omega
    clear hR hn
    go_enter Tryz.func23, Tryz.ntmps23
    go_wp2_with fail
    go_returns
    exact ⟨by rw [hR2.out]; rfl, Ext.refl w⟩
end
end Go.Proofs.YtajelkkiijdegaaGreat
set_option linter.unusedVariables false
set_option linter.unusedSimpArgs false
namespace Go.Proofs.YtajelkkiijdegaaGreat
open Go.RowKit
attribute [local go_sem] GW.cell GW.frozen In.eq_true In.le_true In.ne In.ne' In.ne_add In.ne_add' In.lt_add Upto.le_true Upto.le_add Upto.lt_add
theorem neq_col (k k' : Int) (s t : ByteArray) (w : World) : (binOp .neq 87 (.agg #[.string s, .int .i64 k]) (.agg #[.string t, .int .i64 k'])).run Tryz.prog w = .ok (.bool (!(s.toList == t.toList && k == k'))) w := by
  by_cases h1 : k = k' <;> by_cases h3 : s.toList = t.toList <;> simp [go_sem, h1, h3]
theorem neqc_same (s : ByteArray) (k : Int) (w : World) : (binOp .neq 87 (.agg #[.string s, .int .i64 k]) (.agg #[.string s, .int .i64 k])).run Tryz.prog w = .ok (.bool false) w := by
  rw [neq_col]; simp
theorem neqc_other {k k' : Int} {s t : ByteArray} (h : ¬ ((s, k) = (t, k'))) (w : World) : (binOp .neq 87 (.agg #[.string s, .int .i64 k]) (.agg #[.string t, .int .i64 k'])).run Tryz.prog w = .ok (.bool true) w := by
  rw [neq_col]
  congr 2
  rw [Bool.not_eq_true', ← Bool.not_eq_true]
  intro h'
  simp only [Bool.and_eq_true, beq_iff_eq, toList_iff] at h'
  obtain ⟨rfl, rfl⟩ := h'
  exact h rfl
set_option maxHeartbeats 1000000 in
theorem fits1_c (x : Cl) (y : Vl) (w : World) : Calls Tryz.prog 57 #[.agg #[.string x.1, .int .i64 x.2], .agg #[.int .i64 y.1, .int .i64 y.2.1, .string y.2.2]] w fun e w' => e = .returned (.bool (x.2 == y.1)) ∧ Ext w w' := by
  obtain ⟨xn, xk⟩ := x
  obtain ⟨yk, yv, yn⟩ := y
  go_enter Tryz.func57, Tryz.ntmps57
  go_wp2_with fail
  go_returns
  exact ⟨rfl, ((Ext.refl w).alloc _).alloc _⟩
set_option maxHeartbeats 4000000 in
set_option maxRecDepth 100000 in
theorem refSameS_c {l : List Cl} {m : List Cl} {v u : Value} {w : World} (hl : Cw w [] v l) (hm : Cw w [] u m) : Calls Tryz.prog 18 #[v, u] w fun e w' => e = .returned (.bool (eqP (fun x y : Cl => decide (x = y)) l m)) ∧ Ext w w' := by
  obtain ⟨A, cap, rfl, hlc, hlm, hat⟩ := cw_form hl
  obtain ⟨B, cap2, rfl, hmc, hmm, hbt⟩ := cw_form hm
  unfold maxLen at hlm hmm
  clear hl hm
  replace hat := hide hat
  replace hbt := hide hbt
  obtain ⟨R, hR⟩ : ∃ R, R = eqP (fun x y : Cl => decide (x = y)) l m := ⟨_, rfl⟩
  rw [← hR]
  by_cases hn : l.length = m.length
  · replace hR := hide hR
    obtain ⟨n, hln⟩ : ∃ n, n = l.length := ⟨_, rfl⟩
    have hmn : n = m.length := by omega
    rw [← hln] at hlc ⊢
    rw [← hmn] at hmc ⊢
    have hlI := hide hln
    have hmI := hide hmn
    clear hn hln hmn
    go_enter Tryz.func18, Tryz.ntmps18
    go_wp2_with fail
    go_loopg [5] n (fun gh i wr => ∃ (k : Nat), i = .int .i64 k ∧ k + gh = n ∧ Hid (R = eqP (fun x y : Cl => decide (x = y)) (l.drop k) (m.drop k)) ∧ Ext w wr)
    case atStart => exact ⟨0, rfl, by omega, hR, Ext.refl w⟩
    case round =>
      obtain ⟨k, rfl, hk, hRk, hX⟩ := hrel
      clear hR
      by_cases hlt : k < n
      · obtain ⟨x, hx⟩ : ∃ x, l[k]? = some x := ⟨_, List.getElem?_eq_getElem (by have := hlI.out; omega)⟩
        obtain ⟨y, hy⟩ : ∃ y, m[k]? = some y := ⟨_, List.getElem?_eq_getElem (by have := hmI.out; omega)⟩
        obtain ⟨b, o, rfl, -, hb, c0, c1⟩ := hat.out k x hx
        obtain ⟨b', o', rfl, -, hb', d0, d1⟩ := hbt.out k y hy
        have k0 := cell_later hX c0
        have k1 := cell_later hX c1
        have j0 := cell_later hX d0
        have j1 := cell_later hX d1
        have hbr : b < wr.heap.size := block_lt_of_cell k0
        have hbr' : b' < wr.heap.size := block_lt_of_cell j0
        have hR2 := hRk.out
        rw [drop_cons hx, drop_cons hy] at hR2
        obtain ⟨xn, xk⟩ := x
        obtain ⟨yn, yk⟩ := y
        clear c0 c1 d0 d1 hat hbt hx hy hlI hmI hRk
        by_cases hxy : (xn, xk) = (yn, yk)
        · rw [eqP_yes (p := (fun x y : Cl => decide (x = y))) (x := (xn, xk)) (y := (yn, yk)) (decide_eq_true hxy)] at hR2
          replace hR2 := hide hR2
          cases hxy
          have hns := neqc_same xn xk
          go_wp2_with fail
          go_quiet (fail)
          go_wp2_with fail
          go_roundg (n - (k + 1))
          case measure => omega
          case rel => exact ⟨k + 1, by go_num, by omega, hR2, hX.drewN _⟩
        · rw [eqP_no (p := (fun x y : Cl => decide (x = y))) (x := (xn, xk)) (y := (yn, yk)) (decide_eq_false hxy)] at hR2
          replace hR2 := hide hR2
          have hns := neqc_other hxy
          replace hxy := hide hxy
          go_wp2_with fail
          go_quiet (fail)
          go_wp2_with fail
          go_returns
          exact ⟨by rw [hR2.out]; rfl, hX.drewN _⟩
      · have hk' : k = n := by omega
        have hge : (n : Int) ≤ k := by omega
        have hR2 := hRk.out
        rw [List.drop_eq_nil_of_le (by have := hlI.out; omega), List.drop_eq_nil_of_le (by have := hmI.out; omega)] at hR2
        replace hR2 : R = true := hR2
        replace hR2 := hide hR2
        replace hk' := hide hk'
        go_wp2_with fail
        go_returns
        exact ⟨by rw [hR2.out]; rfl, hX⟩
  · have hR2 := hR.trans (eqP_len hn)
    replace hR2 := hide hR2
    have hnI : ¬ (l.length : Int) = m.length := by omega
    clear hR hn
    go_enter Tryz.func18, Tryz.ntmps18
    go_wp2_with fail
    go_returns
    exact ⟨by rw [hR2.out]; rfl, Ext.refl w⟩
set_option maxHeartbeats 4000000 in
set_option maxRecDepth 100000 in
theorem equalFunc2_c {l : List Cl} {m : List Vl} {v u : Value} {w : World} (hl : Cw w [] v l) (hm : Rw w [] u m) : Calls Tryz.prog 56 #[v, u, .func (.func 57) #[] #[]] w fun e w' => e = .returned (.bool (eqP (fun (x : Cl) (y : Vl) => x.2 == y.1) l m)) ∧ Ext w w' := by
  obtain ⟨A, cap, rfl, hlc, hlm, hat⟩ := cw_form hl
  obtain ⟨B, cap2, rfl, hmc, hmm, hbt⟩ := rw_form hm
  unfold maxLen at hlm hmm
  clear hl hm
  replace hat := hide hat
  replace hbt := hide hbt
  obtain ⟨R, hR⟩ : ∃ R, R = eqP (fun (x : Cl) (y : Vl) => x.2 == y.1) l m := ⟨_, rfl⟩
  rw [← hR]
  by_cases hn : l.length = m.length
  · replace hR := hide hR
    obtain ⟨n, hln⟩ : ∃ n, n = l.length := ⟨_, rfl⟩
    have hmn : n = m.length := by omega
    rw [← hln] at hlc ⊢
    rw [← hmn] at hmc ⊢
    have hlI := hide hln
    have hmI := hide hmn
    clear hn hln hmn
    go_enter Tryz.func56, Tryz.ntmps56
    go_wp2_with fail
    go_loopg [17] n (fun gh i wr => ∃ (k : Nat), i = .int .i64 k ∧ k + gh = n ∧ Hid (R = eqP (fun (x : Cl) (y : Vl) => x.2 == y.1) (l.drop k) (m.drop k)) ∧ Ext w wr)
    case atStart => exact ⟨0, rfl, by omega, hR, Ext.refl w⟩
    case round =>
      obtain ⟨k, rfl, hk, hRk, hX⟩ := hrel
      clear hR
      by_cases hlt : k < n
      · obtain ⟨x, hx⟩ : ∃ x, l[k]? = some x := ⟨_, List.getElem?_eq_getElem (by have := hlI.out; omega)⟩
        obtain ⟨y, hy⟩ : ∃ y, m[k]? = some y := ⟨_, List.getElem?_eq_getElem (by have := hmI.out; omega)⟩
        obtain ⟨b, o, rfl, -, hb, c0, c1⟩ := hat.out k x hx
        obtain ⟨b', o', rfl, -, hb', d0, d1, d2⟩ := hbt.out k y hy
        have k0 := cell_later hX c0
        have k1 := cell_later hX c1
        have j0 := cell_later hX d0
        have j1 := cell_later hX d1
        have j2 := cell_later hX d2
        have hbr : b < wr.heap.size := block_lt_of_cell k0
        have hbr' : b' < wr.heap.size := block_lt_of_cell j0
        have hR2 := hRk.out
        rw [drop_cons hx, drop_cons hy] at hR2
        obtain ⟨xn, xk⟩ := x
        obtain ⟨yk, yv, yn⟩ := y
        clear c0 c1 d0 d1 d2 hat hbt hx hy hlI hmI hRk
        have hq := fun w => fits1_c (xn, xk) (yk, yv, yn) w
        simp only at hq
        replace hq := hide hq
        cases hp : (xk == yk)
        · rw [eqP_no (p := (fun (x : Cl) (y : Vl) => x.2 == y.1)) (x := (xn, xk)) (y := (yk, yv, yn)) hp] at hR2
          rw [hp] at hq
          replace hR2 := hide hR2
          replace hp := hide hp
          go_wp2_with (go_at_call 57; (with_reducible refine seq_gw (hq.out _) ?_); intro g)
          go_returns
          exact ⟨by rw [hR2.out]; rfl, ((hX.alloc _).alloc _).trans g.grown⟩
        · rw [eqP_yes (p := (fun (x : Cl) (y : Vl) => x.2 == y.1)) (x := (xn, xk)) (y := (yk, yv, yn)) hp] at hR2
          rw [hp] at hq
          replace hR2 := hide hR2
          replace hp := hide hp
          go_wp2_with (go_at_call 57; (with_reducible refine seq_gw (hq.out _) ?_); intro g)
          go_roundg (n - (k + 1))
          case measure => omega
          case rel => exact ⟨k + 1, by go_num, by omega, hR2, ((hX.alloc _).alloc _).trans g.grown⟩
      · have hk' : k = n := by omega
        have hge : (n : Int) ≤ k := by omega
        have hR2 := hRk.out
        rw [List.drop_eq_nil_of_le (by have := hlI.out; omega), List.drop_eq_nil_of_le (by have := hmI.out; omega)] at hR2
        replace hR2 : R = true := hR2
        replace hR2 := hide hR2
        replace hk' := hide hk'
        go_wp2_with fail
        go_returns
        exact ⟨by rw [hR2.out]; rfl, hX⟩
  · have hR2 := hR.trans (eqP_len hn)
    replace hR2 := hide hR2
    have hnI : ¬ (l.length : Int) = m.length := by omega
    clear hR hn
    go_enter Tryz.func56, Tryz.ntmps56
    go_wp2_with fail
    go_returns
    exact ⟨by rw [hR2.out]; rfl, Ext.refl w⟩
end Go.Proofs.YtajelkkiijdegaaGreat
