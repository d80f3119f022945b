/-
  A helper of ours: no claim of its own. Layer 6 (row): the order of rows, on both sides.
-/
import Derived.Test.YtljkneajdndgjabGreatValB
import Derived.Deep.LoopGhost
import Derived.BigQuiet
import Derived.Test.YtljkneajdndgjabGreatRowA
import Derived.Test.YtljkneajdndgjabGreatValQ
import Derived.Deep.AppendSrc
import Derived.Lib.LazyBuf
import Derived.WalkLawsBesides
set_option linter.unusedVariables false
set_option linter.unusedSimpArgs false
namespace Go.Proofs.YtljkneajdndgjabGreat
open Go.RowKit
attribute [local go_sem] GW.cell GW.frozen In.eq_true In.le_true In.ne In.ne' In.ne_add In.ne_add' In.lt_add Upto.le_true Upto.le_add Upto.lt_add
end Go.Proofs.YtljkneajdndgjabGreat
set_option linter.unusedVariables false
set_option linter.unusedSimpArgs false
namespace Go.Proofs.YtljkneajdndgjabGreat
open Go.RowKit
attribute [local go_sem] GW.cell GW.frozen In.eq_true In.le_true In.ne In.ne' In.ne_add In.ne_add' In.lt_add Upto.le_true Upto.le_add Upto.lt_add
theorem neq_other {k n k' m : Int} {s t : ByteArray} (h : ¬ ((k, n, s) = (k', m, t))) (w : World) : (binOp .neq 53 (val k n s) (val k' m t)).run Tryz.prog w = .ok (.bool true) w := by
  rw [neq_val]
  congr 2
  rw [Bool.not_eq_true', ← Bool.not_eq_true]
  intro h'
  simp only [Bool.and_eq_true, beq_iff_eq, toList_iff] at h'
  obtain ⟨rfl, rfl, rfl⟩ := h'
  exact h rfl
theorem cons_eq_dec {x y : Vl} (a b : List Vl) (h : x = y) : decide (x :: a = y :: b) = decide (a = b) := by
  subst h; simp
theorem cons_ne_dec {x y : Vl} (a b : List Vl) (h : ¬ x = y) : decide (x :: a = y :: b) = false := by
  rw [decide_eq_false_iff_not]; intro e; injection e with e1 _; exact h e1
section
variable {l m : List Vl} {v u : Value} {w : World}
set_option maxHeartbeats 4000000 in
set_option maxRecDepth 100000 in
theorem rowEqual_c (hl : Rw w [] v l) (hm : Rw w [] u m) : Calls Tryz.prog 138 #[v, u] w fun e w' => e = .returned (.bool (decide (l = m))) ∧ Ext w w' := by
  obtain ⟨A, cap, rfl, hlc, hlm, hat⟩ := rw_form hl
  obtain ⟨B, cap2, rfl, hmc, hmm, hbt⟩ := rw_form hm
  unfold maxLen at hlm hmm
  clear hl hm
  replace hat := hide hat
  replace hbt := hide hbt
  obtain ⟨R, hR⟩ : ∃ R, R = decide (l = m) := ⟨_, rfl⟩
  rw [← hR]
  by_cases hn : l.length = m.length
  · replace hR := hide hR
    have hnI : (l.length : Int) = m.length := by omega
    obtain ⟨n, hln⟩ : ∃ n, n = l.length := ⟨_, rfl⟩
    have hmn : n = m.length := by omega
    rw [← hln] at hlc ⊢
    rw [← hmn] at hmc ⊢
    have hlI := hide hln
    have hmI := hide hmn
    clear hn hnI hln hmn
    go_enter Tryz.func138, Tryz.ntmps138
    go_wp2_with fail
    go_loopg [13] n (fun gh i wr => ∃ (k : Nat), i = .int .i64 k ∧ k + gh = n ∧ Hid (R = decide (l.drop k = m.drop k)) ∧ Ext w wr)
    case atStart => exact ⟨0, rfl, by omega, hR, Ext.refl w⟩
    case round =>
      obtain ⟨k, rfl, hk, hRk, hX⟩ := hrel
      clear hR
      by_cases hlt : k < n
      · obtain ⟨x, hx⟩ : ∃ x, l[k]? = some x := ⟨_, List.getElem?_eq_getElem (by have := hlI.out; omega)⟩
        obtain ⟨y, hy⟩ : ∃ y, m[k]? = some y := ⟨_, List.getElem?_eq_getElem (by have := hmI.out; omega)⟩
        obtain ⟨b, o, rfl, -, hb, c0, c1, c2⟩ := hat.out k x hx
        obtain ⟨b', o', rfl, -, hb', d0, d1, d2⟩ := hbt.out k y hy
        have k0 := cell_later hX c0
        have k1 := cell_later hX c1
        have k2 := cell_later hX c2
        have j0 := cell_later hX d0
        have j1 := cell_later hX d1
        have j2 := cell_later hX d2
        have hbr : b < wr.heap.size := block_lt_of_cell k0
        have hbr' : b' < wr.heap.size := block_lt_of_cell j0
        have hR2 := hRk.out
        rw [drop_cons hx, drop_cons hy] at hR2
        obtain ⟨xk, xn, xs⟩ := x
        obtain ⟨yk, yn, ys⟩ := y
        clear c0 c1 c2 d0 d1 d2 hat hbt hx hy hlI hmI hRk
        by_cases hxy : (xk, xn, xs) = (yk, yn, ys)
        · rw [cons_eq_dec _ _ hxy] at hR2
          replace hR2 := hide hR2
          cases hxy
          have hns := neq_same xk xn xs
          go_wp2_with fail
          go_quiet (fail)
          go_wp2_with fail
          go_roundg (n - (k + 1))
          case measure => omega
          case rel => exact ⟨k + 1, by go_num, by omega, hR2, hX.drewN _⟩
        · rw [cons_ne_dec _ _ hxy] at hR2
          replace hR2 := hide hR2
          have hns := neq_other hxy
          replace hxy := hide hxy
          go_wp2_with fail
          go_quiet (fail)
          go_wp2_with fail
          go_returns
          exact ⟨by rw [hR2.out]; rfl, hX.drewN _⟩
      · have hk' : k = n := by omega
        have hge : (n : Int) ≤ k := by omega
        have hR2 := hRk.out
        rw [List.drop_eq_nil_of_le (by have := hlI.out; omega), List.drop_eq_nil_of_le (by have := hmI.out; omega)] at hR2
        replace hR2 : R = true := by simpa using hR2
        replace hR2 := hide hR2
        replace hk' := hide hk'
        go_wp2_with fail
        go_returns
        exact ⟨by rw [hR2.out]; rfl, hX⟩
  · have hR2 : R = false := by rw [hR, decide_eq_false_iff_not]; rintro rfl; exact hn rfl
    replace hR2 := hide hR2
    have hnI : ¬ (l.length : Int) = m.length := by omega
    clear hR hn
    go_enter Tryz.func138, Tryz.ntmps138
    go_wp2_with fail
    go_returns
    exact ⟨by rw [hR2.out]; rfl, Ext.refl w⟩
set_option maxHeartbeats 1000000 in
theorem rowSame_c (hl : Rw w [] v l) (hm : Rw w [] u m) : Calls Tryz.prog 109 #[v, u] w fun e w' => e = .returned (.bool (decide (l = m))) ∧ Ext w w' := by
  have hc := hide (rowEqual_c hl hm)
  generalize decide (l = m) = b at *
  clear hl hm
  go_enter Tryz.func109, Tryz.ntmps109
  go_wp2_with (go_at_call 138; (with_reducible refine seq_gw hc.out ?_); intro g)
  go_returns
  exact ⟨rfl, g.grown⟩
set_option maxHeartbeats 4000000 in
set_option maxRecDepth 100000 in
theorem refRowSame_c (hl : Rw w [] v l) (hm : Rw w [] u m) : Calls Tryz.prog 46 #[v, u] w fun e w' => e = .returned (.bool (decide (l = m))) ∧ Ext w w' := by
  obtain ⟨A, cap, rfl, hlc, hlm, hat⟩ := rw_form hl
  obtain ⟨B, cap2, rfl, hmc, hmm, hbt⟩ := rw_form hm
  unfold maxLen at hlm hmm
  clear hl hm
  replace hat := hide hat
  replace hbt := hide hbt
  obtain ⟨R, hR⟩ : ∃ R, R = decide (l = m) := ⟨_, rfl⟩
  rw [← hR]
  by_cases hn : l.length = m.length
  · replace hR := hide hR
    have hnI : (l.length : Int) = m.length := by omega
    obtain ⟨n, hln⟩ : ∃ n, n = l.length := ⟨_, rfl⟩
    have hmn : n = m.length := by omega
    rw [← hln] at hlc ⊢
    rw [← hmn] at hmc ⊢
    have hlI := hide hln
    have hmI := hide hmn
    clear hn hnI hln hmn
    go_enter Tryz.func46, Tryz.ntmps46
    go_wp2_with fail
    go_loopg [5] n (fun gh i wr => ∃ (k : Nat), i = .int .i64 k ∧ k + gh = n ∧ Hid (R = decide (l.drop k = m.drop k)) ∧ Ext w wr)
    case atStart => exact ⟨0, rfl, by omega, hR, Ext.refl w⟩
    case round =>
      obtain ⟨k, rfl, hk, hRk, hX⟩ := hrel
      clear hR
      by_cases hlt : k < n
      · obtain ⟨x, hx⟩ : ∃ x, l[k]? = some x := ⟨_, List.getElem?_eq_getElem (by have := hlI.out; omega)⟩
        obtain ⟨y, hy⟩ : ∃ y, m[k]? = some y := ⟨_, List.getElem?_eq_getElem (by have := hmI.out; omega)⟩
        obtain ⟨b, o, rfl, -, hb, c0, c1, c2⟩ := hat.out k x hx
        obtain ⟨b', o', rfl, -, hb', d0, d1, d2⟩ := hbt.out k y hy
        have k0 := cell_later hX c0
        have k1 := cell_later hX c1
        have k2 := cell_later hX c2
        have j0 := cell_later hX d0
        have j1 := cell_later hX d1
        have j2 := cell_later hX d2
        have hbr : b < wr.heap.size := block_lt_of_cell k0
        have hbr' : b' < wr.heap.size := block_lt_of_cell j0
        have hR2 := hRk.out
        rw [drop_cons hx, drop_cons hy] at hR2
        obtain ⟨xk, xn, xs⟩ := x
        obtain ⟨yk, yn, ys⟩ := y
        clear c0 c1 c2 d0 d1 d2 hat hbt hx hy hlI hmI hRk
        by_cases hxy : (xk, xn, xs) = (yk, yn, ys)
        · rw [cons_eq_dec _ _ hxy] at hR2
          replace hR2 := hide hR2
          cases hxy
          have hns := neq_same xk xn xs
          go_wp2_with fail
          go_quiet (fail)
          go_wp2_with fail
          go_roundg (n - (k + 1))
          case measure => omega
          case rel => exact ⟨k + 1, by go_num, by omega, hR2, hX.drewN _⟩
        · rw [cons_ne_dec _ _ hxy] at hR2
          replace hR2 := hide hR2
          have hns := neq_other hxy
          replace hxy := hide hxy
          go_wp2_with fail
          go_quiet (fail)
          go_wp2_with fail
          go_returns
          exact ⟨by rw [hR2.out]; rfl, hX.drewN _⟩
      · have hk' : k = n := by omega
        have hge : (n : Int) ≤ k := by omega
        have hR2 := hRk.out
        rw [List.drop_eq_nil_of_le (by have := hlI.out; omega), List.drop_eq_nil_of_le (by have := hmI.out; omega)] at hR2
        replace hR2 : R = true := by simpa using hR2
        replace hR2 := hide hR2
        replace hk' := hide hk'
        go_wp2_with fail
        go_returns
        exact ⟨by rw [hR2.out]; rfl, hX⟩
  · have hR2 : R = false := by rw [hR, decide_eq_false_iff_not]; rintro rfl; exact hn rfl
    replace hR2 := hide hR2
    have hnI : ¬ (l.length : Int) = m.length := by omega
    clear hR hn
    go_enter Tryz.func46, Tryz.ntmps46
    go_wp2_with fail
    go_returns
    exact ⟨by rw [hR2.out]; rfl, Ext.refl w⟩
end
end Go.Proofs.YtljkneajdndgjabGreat
set_option linter.unusedVariables false
set_option linter.unusedSimpArgs false
namespace Go.Proofs.YtljkneajdndgjabGreat
open Go.RowKit
attribute [local go_sem] GW.cell GW.frozen In.eq_true In.le_true In.ne In.ne' In.ne_add In.ne_add' In.lt_add Upto.le_true Upto.le_add Upto.lt_add
theorem nanI_c (n : Int) (w : World) : Calls Tryz.prog 166 #[.int .i64 n] w fun e w' => e = .returned (.bool false) ∧ Ext w w' := by
  go_enter Tryz.func166, Tryz.ntmps166
  go_wp2_with fail
  go_returns
  exact ⟨rfl, Ext.refl w⟩
set_option maxHeartbeats 1000000 in
theorem cmpInt_c (n m : Int) (w : World) : Calls Tryz.prog 141 #[.int .i64 n, .int .i64 m] w fun e w' => e = .returned (.int .i64 (cmpN n m)) ∧ Ext w w' := by
  obtain ⟨r, hr⟩ : ∃ r, r = cmpN n m := ⟨_, rfl⟩
  rw [← hr]
  unfold cmpN at hr
  by_cases h1 : n < m
  · rw [if_pos h1] at hr
    subst hr
    go_enter Tryz.func141, Tryz.ntmps141
    go_wp2_with (go_at_call 166; (first | (with_reducible refine seq_gw' (nanI_c _ _) ?_) | (with_reducible refine seq_gw (nanI_c _ _) ?_)); intro g)
    go_returns
    exact ⟨rfl, g.grown⟩
  · by_cases h2 : m < n
    · rw [if_neg h1, if_pos h2] at hr
      subst hr
      go_enter Tryz.func141, Tryz.ntmps141
      go_wp2_with (go_at_call 166; (first | (with_reducible refine seq_gw' (nanI_c _ _) ?_) | (with_reducible refine seq_gw (nanI_c _ _) ?_)); intro g)
      go_returns
      exact ⟨rfl, g.grown⟩
    · rw [if_neg h1, if_neg h2] at hr
      subst hr
      have e : n = m := by omega
      subst e
      go_enter Tryz.func141, Tryz.ntmps141
      go_wp2_with (go_at_call 166; (first | (with_reducible refine seq_gw' (nanI_c _ _) ?_) | (with_reducible refine seq_gw (nanI_c _ _) ?_)); intro g)
      go_returns
      exact ⟨rfl, g.grown⟩
/-- How many values both begin with. -/
def pre : List Vl → List Vl → Nat
  | x :: a, y :: b => if x = y then pre a b + 1 else 0
  | _, _ => 0
theorem pre_le : ∀ a b : List Vl, pre a b ≤ a.length ∧ pre a b ≤ b.length
  | [], [] => ⟨Nat.le_refl _, Nat.le_refl _⟩
  | [], _ :: _ => ⟨Nat.le_refl _, Nat.zero_le _⟩
  | _ :: _, [] => ⟨Nat.zero_le _, Nat.le_refl _⟩
  | x :: a, y :: b => by
    simp only [pre, List.length_cons]
    have := pre_le a b
    split <;> omega
theorem cmpT_end : ∀ a b : List Vl, pre a b = min a.length b.length → cmpT a b = cmpN a.length b.length
  | [], [], _ => by simp [cmpT, cmpN]
  | [], _ :: _, _ => by first | (simp [cmpT, cmpN]; done) | (simp [cmpT, cmpN]; omega)
  | _ :: _, [], _ => by first | (simp [cmpT, cmpN]; done) | (simp [cmpT, cmpN]; omega)
  | x :: a, y :: b, h => by
    simp only [pre, cmpT] at h ⊢
    by_cases e : x = y
    · rw [if_pos e] at h ⊢
      rw [cmpT_end a b (by simp only [List.length_cons] at h; omega)]
      simp only [cmpN, List.length_cons]
      split <;> split <;> (try split) <;> (try split) <;> first | rfl | omega
    · rw [if_neg e] at h
      simp only [List.length_cons] at h; omega
theorem cmpT_diff : ∀ a b : List Vl, ∀ x y, a[pre a b]? = some x → b[pre a b]? = some y → cmpT a b = cmpV x y
  | [], _, x, y, hx, _ => by simp at hx
  | _ :: _, [], x, y, _, hy => by simp at hy
  | p :: a, q :: b, x, y, hx, hy => by
    simp only [pre, cmpT] at hx hy ⊢
    by_cases e : p = q
    · rw [if_pos e] at hx hy ⊢
      exact cmpT_diff a b x y (by simpa using hx) (by simpa using hy)
    · rw [if_neg e] at hx hy ⊢
      simp at hx hy
      rw [hx, hy]
section
variable {l m : List Vl} {v u : Value} {w : World}
set_option maxHeartbeats 2000000 in
set_option maxRecDepth 100000 in
theorem differ_c {ba bb : Nat} (hl : Rw w [] v l) (hm : Rw w [] u m) (oa : Ob w ba 33 [v]) (ob : Ob w bb 33 [u]) (k : Nat) (x y : Vl) (hx : l[k]? = some x) (hy : m[k]? = some y) :
    Calls Tryz.prog 140 #[.int .i64 k, .pointer (some ⟨ba, 0, none⟩), .pointer (some ⟨bb, 0, none⟩)] w fun e w' => e = .returned (.bool (!decide (x = y))) ∧ Ext w w' := by
  obtain ⟨A, cap, rfl, hlc, hlm, hat⟩ := rw_form hl
  obtain ⟨B, cap2, rfl, hmc, hmm, hbt⟩ := rw_form hm
  unfold maxLen at hlm hmm
  obtain ⟨b, o, rfl, -, hb, k0, k1, k2⟩ := hat k x hx
  obtain ⟨b', o', rfl, -, hb', j0, j1, j2⟩ := hbt k y hy
  have hkl : k < l.length := (List.getElem?_eq_some_iff.1 hx).1
  have hkm : k < m.length := (List.getElem?_eq_some_iff.1 hy).1
  have q0 := oa.cell 0 rfl
  have q1 := ob.cell 0 rfl
  have hba := oa.lt
  have hbb := ob.lt
  obtain ⟨xk, xn, xs⟩ := x
  obtain ⟨yk, yn, ys⟩ := y
  clear hl hm hat hbt hx hy oa ob
  by_cases hxy : (xk, xn, xs) = (yk, yn, ys)
  · cases hxy
    rw [decide_eq_true rfl]
    have hns := neq_same xk xn xs
    go_enter Tryz.func140, Tryz.ntmps140
    go_wp2_with fail
    go_quiet (fail)
    go_wp2_with fail
    go_returns
    exact ⟨rfl, (Ext.refl w).drewN _⟩
  · rw [decide_eq_false hxy]
    have hns := neq_other hxy
    replace hxy := hide hxy
    go_enter Tryz.func140, Tryz.ntmps140
    go_wp2_with fail
    go_quiet (fail)
    go_wp2_with fail
    go_returns
    exact ⟨rfl, (Ext.refl w).drewN _⟩
set_option maxHeartbeats 2000000 in
set_option maxRecDepth 100000 in
theorem first_c {ba bb : Nat} (hl : Rw w [] v l) (hm : Rw w [] u m) (oa : Ob w ba 33 [v]) (ob : Ob w bb 33 [u]) (n : Nat) (hn : n = min l.length m.length) :
    Calls Tryz.prog 139 #[.int .i64 n, .func (.func 140) #[] #[.pointer (some ⟨ba, 0, none⟩), .pointer (some ⟨bb, 0, none⟩)]] w fun e w' => e = .returned (.int .i64 (pre l m : Nat)) ∧ Ext w w' := by
  have hmx : n ≤ 9223372036854775807 := by have := hl.le; unfold maxLen at this; omega
  have hd : Hid (∀ wr, Ext w wr → ∀ (k : Nat) (x y : Vl), l[k]? = some x → m[k]? = some y → Calls Tryz.prog 140 #[.int .i64 k, .pointer (some ⟨ba, 0, none⟩), .pointer (some ⟨bb, 0, none⟩)] wr fun e w' => e = .returned (.bool (!decide (x = y))) ∧ Ext wr w') :=
    fun wr hX k x y hx hy => differ_c (Sl.ext hl hX) (Sl.ext hm hX) (oa.ext hX) (ob.ext hX) k x y hx hy
  obtain ⟨R, hR⟩ : ∃ R, R = pre l m := ⟨_, rfl⟩
  rw [← hR]
  replace hR := hide hR
  replace hn := hide hn
  clear hl hm oa ob
  go_enter Tryz.func139, Tryz.ntmps139
  go_wp2_with fail
  go_loopg [7] n (fun gh i wr => ∃ (k : Nat), i = .int .i64 k ∧ k + gh = n ∧ Hid (R = k + pre (l.drop k) (m.drop k)) ∧ Ext w wr)
  case atStart => exact ⟨0, rfl, by omega, (by show R = 0 + pre (l.drop 0) (m.drop 0); rw [hR.out]; simp), Ext.refl w⟩
  case round =>
    obtain ⟨k, rfl, hk, hRk, hX⟩ := hrel
    clear hR
    by_cases hlt : k < n
    · obtain ⟨x, hx⟩ : ∃ x, l[k]? = some x := ⟨_, List.getElem?_eq_getElem (by have := hn.out; omega)⟩
      obtain ⟨y, hy⟩ : ∃ y, m[k]? = some y := ⟨_, List.getElem?_eq_getElem (by have := hn.out; omega)⟩
      have hR2 := hRk.out
      rw [drop_cons hx, drop_cons hy] at hR2
      simp only [pre] at hR2
      have hc := hide (hd.out wr hX k x y hx hy)
      clear hx hy hd hRk
      by_cases hxy : x = y
      · rw [if_pos hxy] at hR2
        rw [decide_eq_true hxy] at hc
        replace hxy := hide hxy
        replace hR2 := hide (show R = (k + 1) + pre (l.drop (k + 1)) (m.drop (k + 1)) by omega)
        go_wp2_with (go_at_call 140; (with_reducible refine seq_gw hc.out ?_); intro g)
        go_roundg (n - (k + 1))
        case measure => omega
        case rel => exact ⟨k + 1, by go_num, by omega, hR2, hX.trans g.grown⟩
      · rw [if_neg hxy] at hR2
        rw [decide_eq_false hxy] at hc
        replace hxy := hide hxy
        replace hR2 := hide hR2
        go_wp2_with (go_at_call 140; (with_reducible refine seq_gw hc.out ?_); intro g)
        go_returns
        exact ⟨by rw [hR2.out]; rfl, hX.trans g.grown⟩
    · have hge : (n : Int) ≤ k := by omega
      have hR2 := hRk.out
      have hp : pre (l.drop k) (m.drop k) = 0 := by
        have h1 := pre_le (l.drop k) (m.drop k)
        rw [List.length_drop, List.length_drop] at h1
        have := hn.out
        omega
      have hkn : k = n := by omega
      rw [hp, hkn] at hR2
      replace hR2 := hide hR2
      replace hkn := hide hkn
      clear hp
      go_wp2_with fail
      go_returns
      exact ⟨by rw [hR2.out]; rfl, hX⟩
end
end Go.Proofs.YtljkneajdndgjabGreat
