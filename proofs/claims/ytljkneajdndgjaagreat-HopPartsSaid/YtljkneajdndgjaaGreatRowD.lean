/-
  A helper of ours: no claim of its own. Layer 6 (row): Compare, on both sides.
-/
import Derived.Test.YtljkneajdndgjaaGreatRowA
import Derived.Test.YtljkneajdndgjaaGreatValC
import Derived.Deep.AppendSrc
import Derived.Lib.LazyBuf
import Derived.WalkLawsBesides
set_option linter.unusedVariables false
set_option linter.unusedSimpArgs false
namespace Go.Proofs.YtljkneajdndgjaaGreat
open Go.RowKit
theorem neq_val (k n k' m : Int) (s t : ByteArray) (w : World) : (binOp .neq 64 (val k n s) (val k' m t)).run Tryz.prog w = .ok (.bool (!(k == k' && (n == m && s.toList == t.toList)))) w := by
  by_cases h1 : k = k' <;> by_cases h2 : n = m <;> by_cases h3 : s.toList = t.toList <;> simp [go_sem, h1, h2, h3]
theorem toList_iff {s t : ByteArray} : s.toList = t.toList ↔ s = t := by
  rw [Lib.toList_data, Lib.toList_data]
  exact ⟨text_eq, fun h => by rw [h]⟩
theorem neq_same (k n : Int) (s : ByteArray) (w : World) : (binOp .neq 64 (val k n s) (val k n s)).run Tryz.prog w = .ok (.bool false) w := by
  rw [neq_val]; simp
end Go.Proofs.YtljkneajdndgjaaGreat
set_option linter.unusedVariables false
set_option linter.unusedSimpArgs false
namespace Go.Proofs.YtljkneajdndgjaaGreat
open Go.RowKit
attribute [local go_sem] GW.cell GW.frozen In.eq_true In.le_true In.ne In.ne' In.ne_add In.ne_add' In.lt_add Upto.le_true Upto.le_add Upto.lt_add
theorem neq_other {k n k' m : Int} {s t : ByteArray} (h : ¬ ((k, n, s) = (k', m, t))) (w : World) : (binOp .neq 64 (val k n s) (val k' m t)).run Tryz.prog w = .ok (.bool true) w := by
  rw [neq_val]
  congr 2
  rw [Bool.not_eq_true', ← Bool.not_eq_true]
  intro h'
  simp only [Bool.and_eq_true, beq_iff_eq, toList_iff] at h'
  obtain ⟨rfl, rfl, rfl⟩ := h'
  exact h rfl
theorem cons_eq_dec {x y : Vl} (a b : List Vl) (h : x = y) : decide (x :: a = y :: b) = decide (a = b) := by
  subst h; simp
theorem cons_ne_dec {x y : Vl} (a b : List Vl) (h : ¬ x = y) : decide (x :: a = y :: b) = false := by
  rw [decide_eq_false_iff_not]; intro e; injection e with e1 _; exact h e1
section
variable {l m : List Vl} {v u : Value} {w : World}
set_option maxHeartbeats 4000000 in
set_option maxRecDepth 100000 in
theorem rowEqual_c (hl : Rw w [] v l) (hm : Rw w [] u m) : Calls Tryz.prog 174 #[v, u] w fun e w' => e = .returned (.bool (decide (l = m))) ∧ Ext w w' := by
  obtain ⟨A, cap, rfl, hlc, hlm, hat⟩ := rw_form hl
  obtain ⟨B, cap2, rfl, hmc, hmm, hbt⟩ := rw_form hm
  unfold maxLen at hlm hmm
  clear hl hm
  replace hat := hide hat
  replace hbt := hide hbt
  obtain ⟨R, hR⟩ : ∃ R, R = decide (l = m) := ⟨_, rfl⟩
  rw [← hR]
  by_cases hn : l.length = m.length
  · replace hR := hide hR
    have hnI : (l.length : Int) = m.length := by omega
    obtain ⟨n, hln⟩ : ∃ n, n = l.length := ⟨_, rfl⟩
    have hmn : n = m.length := by omega
    rw [← hln] at hlc ⊢
    rw [← hmn] at hmc ⊢
    have hlI := hide hln
    have hmI := hide hmn
    clear hn hnI hln hmn
    go_enter Tryz.func174, Tryz.ntmps174
    go_wp2_with fail
    go_loopg [13] n (fun gh i wr => ∃ (k : Nat), i = .int .i64 k ∧ k + gh = n ∧ Hid (R = decide (l.drop k = m.drop k)) ∧ Ext w wr)
    case atStart => exact ⟨0, rfl, by omega, hR, Ext.refl w⟩
    case round =>
      obtain ⟨k, rfl, hk, hRk, hX⟩ := hrel
      clear hR
      by_cases hlt : k < n
      · obtain ⟨x, hx⟩ : ∃ x, l[k]? = some x := ⟨_, List.getElem?_eq_getElem (by have := hlI.out; omega)⟩
        obtain ⟨y, hy⟩ : ∃ y, m[k]? = some y := ⟨_, List.getElem?_eq_getElem (by have := hmI.out; omega)⟩
        obtain ⟨b, o, rfl, -, hb, c0, c1, c2⟩ := hat.out k x hx
        obtain ⟨b', o', rfl, -, hb', d0, d1, d2⟩ := hbt.out k y hy
        have k0 := cell_later hX c0
        have k1 := cell_later hX c1
        have k2 := cell_later hX c2
        have j0 := cell_later hX d0
        have j1 := cell_later hX d1
        have j2 := cell_later hX d2
        have hbr : b < wr.heap.size := block_lt_of_cell k0
        have hbr' : b' < wr.heap.size := block_lt_of_cell j0
        have hR2 := hRk.out
        rw [drop_cons hx, drop_cons hy] at hR2
        obtain ⟨xk, xn, xs⟩ := x
        obtain ⟨yk, yn, ys⟩ := y
        clear c0 c1 c2 d0 d1 d2 hat hbt hx hy hlI hmI hRk
        by_cases hxy : (xk, xn, xs) = (yk, yn, ys)
        · rw [cons_eq_dec _ _ hxy] at hR2
          replace hR2 := hide hR2
          cases hxy
          have hns := neq_same xk xn xs
          go_wp2_with fail
          go_quiet (fail)
          go_wp2_with fail
          go_roundg (n - (k + 1))
          case measure => omega
          case rel => exact ⟨k + 1, by go_num, by omega, hR2, hX.drewN _⟩
        · rw [cons_ne_dec _ _ hxy] at hR2
          replace hR2 := hide hR2
          have hns := neq_other hxy
          replace hxy := hide hxy
          go_wp2_with fail
          go_quiet (fail)
          go_wp2_with fail
          go_returns
          exact ⟨by rw [hR2.out]; rfl, hX.drewN _⟩
      · have hk' : k = n := by omega
        have hge : (n : Int) ≤ k := by omega
        have hR2 := hRk.out
        rw [List.drop_eq_nil_of_le (by have := hlI.out; omega), List.drop_eq_nil_of_le (by have := hmI.out; omega)] at hR2
        replace hR2 : R = true := by simpa using hR2
        replace hR2 := hide hR2
        replace hk' := hide hk'
        go_wp2_with fail
        go_returns
        exact ⟨by rw [hR2.out]; rfl, hX⟩
  · have hR2 : R = false := by rw [hR, decide_eq_false_iff_not]; rintro rfl; exact hn rfl
    replace hR2 := hide hR2
    have hnI : ¬ (l.length : Int) = m.length := by omega
    clear hR hn
    go_enter Tryz.func174, Tryz.ntmps174
    go_wp2_with fail
    go_returns
    exact ⟨by rw [hR2.out]; rfl, Ext.refl w⟩
set_option maxHeartbeats 1000000 in
theorem rowSame_c (hl : Rw w [] v l) (hm : Rw w [] u m) : Calls Tryz.prog 142 #[v, u] w fun e w' => e = .returned (.bool (decide (l = m))) ∧ Ext w w' := by
  have hc := hide (rowEqual_c hl hm)
  generalize decide (l = m) = b at *
  clear hl hm
  go_enter Tryz.func142, Tryz.ntmps142
  go_wp2_with (go_at_call 174; (with_reducible refine seq_gw hc.out ?_); intro g)
  go_returns
  exact ⟨rfl, g.grown⟩
set_option maxHeartbeats 4000000 in
set_option maxRecDepth 100000 in
theorem refRowSame_c (hl : Rw w [] v l) (hm : Rw w [] u m) : Calls Tryz.prog 49 #[v, u] w fun e w' => e = .returned (.bool (decide (l = m))) ∧ Ext w w' := by
  obtain ⟨A, cap, rfl, hlc, hlm, hat⟩ := rw_form hl
  obtain ⟨B, cap2, rfl, hmc, hmm, hbt⟩ := rw_form hm
  unfold maxLen at hlm hmm
  clear hl hm
  replace hat := hide hat
  replace hbt := hide hbt
  obtain ⟨R, hR⟩ : ∃ R, R = decide (l = m) := ⟨_, rfl⟩
  rw [← hR]
  by_cases hn : l.length = m.length
  · replace hR := hide hR
    have hnI : (l.length : Int) = m.length := by omega
    obtain ⟨n, hln⟩ : ∃ n, n = l.length := ⟨_, rfl⟩
    have hmn : n = m.length := by omega
    rw [← hln] at hlc ⊢
    rw [← hmn] at hmc ⊢
    have hlI := hide hln
    have hmI := hide hmn
    clear hn hnI hln hmn
    go_enter Tryz.func49, Tryz.ntmps49
    go_wp2_with fail
    go_loopg [5] n (fun gh i wr => ∃ (k : Nat), i = .int .i64 k ∧ k + gh = n ∧ Hid (R = decide (l.drop k = m.drop k)) ∧ Ext w wr)
    case atStart => exact ⟨0, rfl, by omega, hR, Ext.refl w⟩
    case round =>
      obtain ⟨k, rfl, hk, hRk, hX⟩ := hrel
      clear hR
      by_cases hlt : k < n
      · obtain ⟨x, hx⟩ : ∃ x, l[k]? = some x := ⟨_, List.getElem?_eq_getElem (by have := hlI.out; omega)⟩
        obtain ⟨y, hy⟩ : ∃ y, m[k]? = some y := ⟨_, List.getElem?_eq_getElem (by have := hmI.out; omega)⟩
        obtain ⟨b, o, rfl, -, hb, c0, c1, c2⟩ := hat.out k x hx
        obtain ⟨b', o', rfl, -, hb', d0, d1, d2⟩ := hbt.out k y hy
        have k0 := cell_later hX c0
        have k1 := cell_later hX c1
        have k2 := cell_later hX c2
        have j0 := cell_later hX d0
        have j1 := cell_later hX d1
        have j2 := cell_later hX d2
        have hbr : b < wr.heap.size := block_lt_of_cell k0
        have hbr' : b' < wr.heap.size := block_lt_of_cell j0
        have hR2 := hRk.out
        rw [drop_cons hx, drop_cons hy] at hR2
        obtain ⟨xk, xn, xs⟩ := x
        obtain ⟨yk, yn, ys⟩ := y
        clear c0 c1 c2 d0 d1 d2 hat hbt hx hy hlI hmI hRk
        by_cases hxy : (xk, xn, xs) = (yk, yn, ys)
        · rw [cons_eq_dec _ _ hxy] at hR2
          replace hR2 := hide hR2
          cases hxy
          have hns := neq_same xk xn xs
          go_wp2_with fail
          go_quiet (fail)
          go_wp2_with fail
          go_roundg (n - (k + 1))
          case measure => omega
          case rel => exact ⟨k + 1, by go_num, by omega, hR2, hX.drewN _⟩
        · rw [cons_ne_dec _ _ hxy] at hR2
          replace hR2 := hide hR2
          have hns := neq_other hxy
          replace hxy := hide hxy
          go_wp2_with fail
          go_quiet (fail)
          go_wp2_with fail
          go_returns
          exact ⟨by rw [hR2.out]; rfl, hX.drewN _⟩
      · have hk' : k = n := by omega
        have hge : (n : Int) ≤ k := by omega
        have hR2 := hRk.out
        rw [List.drop_eq_nil_of_le (by have := hlI.out; omega), List.drop_eq_nil_of_le (by have := hmI.out; omega)] at hR2
        replace hR2 : R = true := by simpa using hR2
        replace hR2 := hide hR2
        replace hk' := hide hk'
        go_wp2_with fail
        go_returns
        exact ⟨by rw [hR2.out]; rfl, hX⟩
  · have hR2 : R = false := by rw [hR, decide_eq_false_iff_not]; rintro rfl; exact hn rfl
    replace hR2 := hide hR2
    have hnI : ¬ (l.length : Int) = m.length := by omega
    clear hR hn
    go_enter Tryz.func49, Tryz.ntmps49
    go_wp2_with fail
    go_returns
    exact ⟨by rw [hR2.out]; rfl, Ext.refl w⟩
end
end Go.Proofs.YtljkneajdndgjaaGreat
set_option linter.unusedVariables false
set_option linter.unusedSimpArgs false
namespace Go.Proofs.YtljkneajdndgjaaGreat
open Go.RowKit
attribute [local go_sem] GW.cell GW.frozen In.eq_true In.le_true In.ne In.ne' In.ne_add In.ne_add' In.lt_add Upto.le_true Upto.le_add Upto.lt_add
theorem nanI_c (n : Int) (w : World) : Calls Tryz.prog 173 #[.int .i64 n] w fun e w' => e = .returned (.bool false) ∧ Ext w w' := by
  go_enter Tryz.func173, Tryz.ntmps173
  go_wp2_with fail
  go_returns
  exact ⟨rfl, Ext.refl w⟩
set_option maxHeartbeats 1000000 in
theorem cmpInt_c (n m : Int) (w : World) : Calls Tryz.prog 167 #[.int .i64 n, .int .i64 m] w fun e w' => e = .returned (.int .i64 (cmpN n m)) ∧ Ext w w' := by
  obtain ⟨r, hr⟩ : ∃ r, r = cmpN n m := ⟨_, rfl⟩
  rw [← hr]
  unfold cmpN at hr
  by_cases h1 : n < m
  · rw [if_pos h1] at hr
    subst hr
    go_enter Tryz.func167, Tryz.ntmps167
    go_wp2_with (go_at_call 173; (first | (with_reducible refine seq_gw' (nanI_c _ _) ?_) | (with_reducible refine seq_gw (nanI_c _ _) ?_)); intro g)
    go_returns
    exact ⟨rfl, g.grown⟩
  · by_cases h2 : m < n
    · rw [if_neg h1, if_pos h2] at hr
      subst hr
      go_enter Tryz.func167, Tryz.ntmps167
      go_wp2_with (go_at_call 173; (first | (with_reducible refine seq_gw' (nanI_c _ _) ?_) | (with_reducible refine seq_gw (nanI_c _ _) ?_)); intro g)
      go_returns
      exact ⟨rfl, g.grown⟩
    · rw [if_neg h1, if_neg h2] at hr
      subst hr
      have e : n = m := by omega
      subst e
      go_enter Tryz.func167, Tryz.ntmps167
      go_wp2_with (go_at_call 173; (first | (with_reducible refine seq_gw' (nanI_c _ _) ?_) | (with_reducible refine seq_gw (nanI_c _ _) ?_)); intro g)
      go_returns
      exact ⟨rfl, g.grown⟩
/-- How many values both begin with. -/
def pre : List Vl → List Vl → Nat
  | x :: a, y :: b => if x = y then pre a b + 1 else 0
  | _, _ => 0
theorem pre_le : ∀ a b : List Vl, pre a b ≤ a.length ∧ pre a b ≤ b.length
  | [], [] => ⟨Nat.le_refl _, Nat.le_refl _⟩
  | [], _ :: _ => ⟨Nat.le_refl _, Nat.zero_le _⟩
  | _ :: _, [] => ⟨Nat.zero_le _, Nat.le_refl _⟩
  | x :: a, y :: b => by
    simp only [pre, List.length_cons]
    have := pre_le a b
    split <;> omega
theorem cmpT_end : ∀ a b : List Vl, pre a b = min a.length b.length → cmpT a b = cmpN a.length b.length
  | [], [], _ => by simp [cmpT, cmpN]
  | [], _ :: _, _ => by first | (simp [cmpT, cmpN]; done) | (simp [cmpT, cmpN]; omega)
  | _ :: _, [], _ => by first | (simp [cmpT, cmpN]; done) | (simp [cmpT, cmpN]; omega)
  | x :: a, y :: b, h => by
    simp only [pre, cmpT] at h ⊢
    by_cases e : x = y
    · rw [if_pos e] at h ⊢
      rw [cmpT_end a b (by simp only [List.length_cons] at h; omega)]
      simp only [cmpN, List.length_cons]
      split <;> split <;> (try split) <;> (try split) <;> first | rfl | omega
    · rw [if_neg e] at h
      simp only [List.length_cons] at h; omega
theorem cmpT_diff : ∀ a b : List Vl, ∀ x y, a[pre a b]? = some x → b[pre a b]? = some y → cmpT a b = cmpV x y
  | [], _, x, y, hx, _ => by simp at hx
  | _ :: _, [], x, y, _, hy => by simp at hy
  | p :: a, q :: b, x, y, hx, hy => by
    simp only [pre, cmpT] at hx hy ⊢
    by_cases e : p = q
    · rw [if_pos e] at hx hy ⊢
      exact cmpT_diff a b x y (by simpa using hx) (by simpa using hy)
    · rw [if_neg e] at hx hy ⊢
      simp at hx hy
      rw [hx, hy]
section
variable {l m : List Vl} {v u : Value} {w : World}
set_option maxHeartbeats 2000000 in
set_option maxRecDepth 100000 in
theorem differ_c {ba bb : Nat} (hl : Rw w [] v l) (hm : Rw w [] u m) (oa : Ob w ba 54 [v]) (ob : Ob w bb 54 [u]) (k : Nat) (x y : Vl) (hx : l[k]? = some x) (hy : m[k]? = some y) :
    Calls Tryz.prog 166 #[.int .i64 k, .pointer (some ⟨ba, 0, none⟩), .pointer (some ⟨bb, 0, none⟩)] w fun e w' => e = .returned (.bool (!decide (x = y))) ∧ Ext w w' := by
  obtain ⟨A, cap, rfl, hlc, hlm, hat⟩ := rw_form hl
  obtain ⟨B, cap2, rfl, hmc, hmm, hbt⟩ := rw_form hm
  unfold maxLen at hlm hmm
  obtain ⟨b, o, rfl, -, hb, k0, k1, k2⟩ := hat k x hx
  obtain ⟨b', o', rfl, -, hb', j0, j1, j2⟩ := hbt k y hy
  have hkl : k < l.length := (List.getElem?_eq_some_iff.1 hx).1
  have hkm : k < m.length := (List.getElem?_eq_some_iff.1 hy).1
  have q0 := oa.cell 0 rfl
  have q1 := ob.cell 0 rfl
  have hba := oa.lt
  have hbb := ob.lt
  obtain ⟨xk, xn, xs⟩ := x
  obtain ⟨yk, yn, ys⟩ := y
  clear hl hm hat hbt hx hy oa ob
  by_cases hxy : (xk, xn, xs) = (yk, yn, ys)
  · cases hxy
    rw [decide_eq_true rfl]
    have hns := neq_same xk xn xs
    go_enter Tryz.func166, Tryz.ntmps166
    go_wp2_with fail
    go_quiet (fail)
    go_wp2_with fail
    go_returns
    exact ⟨rfl, (Ext.refl w).drewN _⟩
  · rw [decide_eq_false hxy]
    have hns := neq_other hxy
    replace hxy := hide hxy
    go_enter Tryz.func166, Tryz.ntmps166
    go_wp2_with fail
    go_quiet (fail)
    go_wp2_with fail
    go_returns
    exact ⟨rfl, (Ext.refl w).drewN _⟩
set_option maxHeartbeats 2000000 in
set_option maxRecDepth 100000 in
theorem first_c {ba bb : Nat} (hl : Rw w [] v l) (hm : Rw w [] u m) (oa : Ob w ba 54 [v]) (ob : Ob w bb 54 [u]) (n : Nat) (hn : n = min l.length m.length) :
    Calls Tryz.prog 165 #[.int .i64 n, .func (.func 166) #[] #[.pointer (some ⟨ba, 0, none⟩), .pointer (some ⟨bb, 0, none⟩)]] w fun e w' => e = .returned (.int .i64 (pre l m : Nat)) ∧ Ext w w' := by
  have hmx : n ≤ 9223372036854775807 := by have := hl.le; unfold maxLen at this; omega
  have hd : Hid (∀ wr, Ext w wr → ∀ (k : Nat) (x y : Vl), l[k]? = some x → m[k]? = some y → Calls Tryz.prog 166 #[.int .i64 k, .pointer (some ⟨ba, 0, none⟩), .pointer (some ⟨bb, 0, none⟩)] wr fun e w' => e = .returned (.bool (!decide (x = y))) ∧ Ext wr w') :=
    fun wr hX k x y hx hy => differ_c (Sl.ext hl hX) (Sl.ext hm hX) (oa.ext hX) (ob.ext hX) k x y hx hy
  obtain ⟨R, hR⟩ : ∃ R, R = pre l m := ⟨_, rfl⟩
  rw [← hR]
  replace hR := hide hR
  replace hn := hide hn
  clear hl hm oa ob
  go_enter Tryz.func165, Tryz.ntmps165
  go_wp2_with fail
  go_loopg [7] n (fun gh i wr => ∃ (k : Nat), i = .int .i64 k ∧ k + gh = n ∧ Hid (R = k + pre (l.drop k) (m.drop k)) ∧ Ext w wr)
  case atStart => exact ⟨0, rfl, by omega, (by show R = 0 + pre (l.drop 0) (m.drop 0); rw [hR.out]; simp), Ext.refl w⟩
  case round =>
    obtain ⟨k, rfl, hk, hRk, hX⟩ := hrel
    clear hR
    by_cases hlt : k < n
    · obtain ⟨x, hx⟩ : ∃ x, l[k]? = some x := ⟨_, List.getElem?_eq_getElem (by have := hn.out; omega)⟩
      obtain ⟨y, hy⟩ : ∃ y, m[k]? = some y := ⟨_, List.getElem?_eq_getElem (by have := hn.out; omega)⟩
      have hR2 := hRk.out
      rw [drop_cons hx, drop_cons hy] at hR2
      simp only [pre] at hR2
      have hc := hide (hd.out wr hX k x y hx hy)
      clear hx hy hd hRk
      by_cases hxy : x = y
      · rw [if_pos hxy] at hR2
        rw [decide_eq_true hxy] at hc
        replace hxy := hide hxy
        replace hR2 := hide (show R = (k + 1) + pre (l.drop (k + 1)) (m.drop (k + 1)) by omega)
        go_wp2_with (go_at_call 166; (with_reducible refine seq_gw hc.out ?_); intro g)
        go_roundg (n - (k + 1))
        case measure => omega
        case rel => exact ⟨k + 1, by go_num, by omega, hR2, hX.trans g.grown⟩
      · rw [if_neg hxy] at hR2
        rw [decide_eq_false hxy] at hc
        replace hxy := hide hxy
        replace hR2 := hide hR2
        go_wp2_with (go_at_call 166; (with_reducible refine seq_gw hc.out ?_); intro g)
        go_returns
        exact ⟨by rw [hR2.out]; rfl, hX.trans g.grown⟩
    · have hge : (n : Int) ≤ k := by omega
      have hR2 := hRk.out
      have hp : pre (l.drop k) (m.drop k) = 0 := by
        have h1 := pre_le (l.drop k) (m.drop k)
        rw [List.length_drop, List.length_drop] at h1
        have := hn.out
        omega
      have hkn : k = n := by omega
      rw [hp, hkn] at hR2
      replace hR2 := hide hR2
      replace hkn := hide hkn
      clear hp
      go_wp2_with fail
      go_returns
      exact ⟨by rw [hR2.out]; rfl, hX⟩
end
end Go.Proofs.YtljkneajdndgjaaGreat
set_option linter.unusedVariables false
set_option linter.unusedSimpArgs false
namespace Go.Proofs.YtljkneajdndgjaaGreat
open Go.RowKit
attribute [local go_sem] GW.cell GW.frozen In.eq_true In.le_true In.ne In.ne' In.ne_add In.ne_add' In.lt_add Upto.le_true Upto.le_add Upto.lt_add
abbrev bxR (v : Value) : Obj := .cells #[v] 54
section
variable {l m : List Vl} {v u : Value} {w : World}
set_option maxHeartbeats 2000000 in
set_option maxRecDepth 100000 in
theorem rowCompareNo_c (hl : Rw w [] v l) (hm : Rw w [] u m) (h : (mayR l && mayR m) = false) : Calls Tryz.prog 125 #[v, u] w fun e w' => e = .returned (.int .i64 0) ∧ Ext w w' := by
  have h1 := hide (fun w' (hX : Ext w w') => rowMay_c l v w' (Sl.ext hl hX))
  have h2 := hide (fun w' (hX : Ext w w') => rowMay_c m u w' (Sl.ext hm hX))
  obtain ⟨A, cap, rfl, -, -, -⟩ := rw_form hl
  obtain ⟨B, cap2, rfl, -, -, -⟩ := rw_form hm
  have hX0 := hide (((Ext.refl w).alloc (bxR (.slice A l.length cap))).alloc (bxR (.slice B m.length cap2)))
  clear hl hm
  cases ha : mayR l
  · rw [ha] at h1
    clear h ha
    go_enter Tryz.func125, Tryz.ntmps125
    go_wp2_with (go_at_call 122; (with_reducible refine seq_gw (h1.out _ hX0.out) ?_); intro g)
    go_returns
    exact ⟨rfl, hX0.out.trans g.grown⟩
  · rw [ha, Bool.true_and] at h
    rw [ha] at h1
    rw [h] at h2
    clear h ha
    go_enter Tryz.func125, Tryz.ntmps125
    go_wp2_with (first | (go_at_call 122; (with_reducible refine seq_gw (h1.out _ hX0.out) ?_); intro g) | (go_at_call 122; (with_reducible refine seq_gw' (h2.out _ (hX0.out.trans g.grown)) ?_); intro g2))
    go_returns
    exact ⟨rfl, hX0.out.trans g2.grown⟩
set_option maxHeartbeats 4000000 in
set_option maxRecDepth 100000 in
theorem rowCompareYes_c (hl : Rw w [] v l) (hm : Rw w [] u m) (ha : mayR l = true) (hb : mayR m = true) : Calls Tryz.prog 125 #[v, u] w fun e w' => e = .returned (.int .i64 (cmpT l m)) ∧ Ext w w' := by
  have h1 := hide (fun w' (hX : Ext w w') => rowMay_c l v w' (Sl.ext hl hX))
  have h2 := hide (fun w' (hX : Ext w w') => rowMay_c m u w' (Sl.ext hm hX))
  rw [ha] at h1
  rw [hb] at h2
  obtain ⟨A, cap, rfl, hlc, hlm, hat⟩ := rw_form hl
  obtain ⟨B, cap2, rfl, hmc, hmm, hbt⟩ := rw_form hm
  unfold maxLen at hlm hmm
  have l8 := (mayR_iff.1 ha).1
  have m8 := (mayR_iff.1 hb).1
  replace hat := hide hat
  replace hbt := hide hbt
  have hX0 := hide (((Ext.refl w).alloc (bxR (.slice A l.length cap))).alloc (bxR (.slice B m.length cap2)))
  have oa := (Ob.new w 54 [.slice A l.length cap]).alloc (bxR (.slice B m.length cap2))
  have ob : Ob ((w.alloc (bxR (.slice A l.length cap))).alloc (bxR (.slice B m.length cap2))) (w.heap.size + 1) 54 [.slice B m.length cap2] := by
    have := Ob.new (w.alloc (bxR (.slice A l.length cap))) 54 [.slice B m.length cap2]
    simpa using this
  replace oa := hide oa
  replace ob := hide ob
  have hf : Hid (∀ w', Ext ((w.alloc (bxR (.slice A l.length cap))).alloc (bxR (.slice B m.length cap2))) w' → Calls Tryz.prog 165 #[.int .i64 (min l.length m.length : Nat), .func (.func 166) #[] #[.pointer (some ⟨w.heap.size, 0, none⟩), .pointer (some ⟨w.heap.size + 1, 0, none⟩)]] w' fun e w'' => e = .returned (.int .i64 (pre l m : Nat)) ∧ Ext w' w'') :=
    fun w' hX => first_c (Sl.ext hl (hX0.out.trans hX)) (Sl.ext hm (hX0.out.trans hX)) (oa.out.ext hX) (ob.out.ext hX) _ rfl
  have hpl := pre_le l m
  by_cases hlt : m.length < l.length
  · have e0 : min l.length m.length = m.length := by omega
    rw [e0] at hf
    have hI : (m.length : Int) < l.length := by omega
    by_cases hp : pre l m = m.length
    · have hce := cmpT_end l m (by rw [e0]; exact hp)
      rw [hce]
      rw [hp] at hf
      have hc := hide (fun w => cmpInt_c l.length m.length w)
      clear hce hp e0 hlt hat hbt hpl ha hb oa ob hl hm
      go_enter Tryz.func125, Tryz.ntmps125
      go_wp2_with (first | (go_at_call 122; (with_reducible refine seq_gw (h1.out _ hX0.out) ?_); intro g) | (go_at_call 122; (with_reducible refine seq_gw' (h2.out _ (hX0.out.trans g.grown)) ?_); intro g2) | (go_at_call 165; (with_reducible refine seq_gw' (hf.out _ g2.grown) ?_); intro g3) | (go_at_call 167; (with_reducible refine seq_gw' (hc.out _) ?_); intro g4))
      go_returns
      exact ⟨rfl, hX0.out.trans g4.grown⟩
    · obtain ⟨x, hx⟩ : ∃ x, l[pre l m]? = some x := ⟨_, List.getElem?_eq_getElem (by omega)⟩
      obtain ⟨y, hy⟩ : ∃ y, m[pre l m]? = some y := ⟨_, List.getElem?_eq_getElem (by omega)⟩
      have hcd := cmpT_diff l m x y hx hy
      rw [hcd]
      obtain ⟨b, o, rfl, -, hb1, c0, c1, c2⟩ := hat.out _ x hx
      obtain ⟨b', o', rfl, -, hb2, d0, d1, d2⟩ := hbt.out _ y hy
      obtain ⟨xk, xn, xs⟩ := x
      obtain ⟨yk, yn, ys⟩ := y
      have hc := hide (fun w => compare_c xk xn yk yn xs ys w)
      have hpb : (((pre l m : Nat) : Int) == m.length) = false := by rw [beq_eq_false_iff_ne]; omega
      have hp1 : pre l m < l.length := by omega
      have hp2 : pre l m < m.length := by omega
      haveI : In b w := ⟨hb1⟩
      haveI : In b' w := ⟨hb2⟩
      generalize pre l m = q at *
      clear hcd hp e0 hlt hat hbt hx hy hpl ha hb oa ob hl hm
      go_enter Tryz.func125, Tryz.ntmps125
      go_wp2_with (first | (go_at_call 122; (with_reducible refine seq_gw (h1.out _ hX0.out) ?_); intro g) | (go_at_call 122; (with_reducible refine seq_gw' (h2.out _ (hX0.out.trans g.grown)) ?_); intro g2) | (go_at_call 165; (with_reducible refine seq_gw' (hf.out _ g2.grown) ?_); intro g3))
      refine wp_region_gw (by kernel_rfl) (by kernel_rfl) ?_
      repeat (go_big_quiet_step ((go_at_call 168; with_reducible exact quiet_gw (hc.out _))))
      refine wpQuiet_nil ?_
      intro g4
      go_wp2_with fail
      go_returns
      exact ⟨rfl, hX0.out.trans (g3.grown.trans g4.grown)⟩
  · have e0 : min l.length m.length = l.length := by omega
    rw [e0] at hf
    have hI : ¬ (m.length : Int) < l.length := by omega
    by_cases hp : pre l m = l.length
    · have hce := cmpT_end l m (by rw [e0]; exact hp)
      rw [hce]
      rw [hp] at hf
      have hc := hide (fun w => cmpInt_c l.length m.length w)
      clear hce hp e0 hlt hat hbt hpl ha hb oa ob hl hm
      go_enter Tryz.func125, Tryz.ntmps125
      go_wp2_with (first | (go_at_call 122; (with_reducible refine seq_gw (h1.out _ hX0.out) ?_); intro g) | (go_at_call 122; (with_reducible refine seq_gw' (h2.out _ (hX0.out.trans g.grown)) ?_); intro g2) | (go_at_call 165; (with_reducible refine seq_gw' (hf.out _ g2.grown) ?_); intro g3) | (go_at_call 167; (with_reducible refine seq_gw' (hc.out _) ?_); intro g4))
      go_returns
      exact ⟨rfl, hX0.out.trans g4.grown⟩
    · obtain ⟨x, hx⟩ : ∃ x, l[pre l m]? = some x := ⟨_, List.getElem?_eq_getElem (by omega)⟩
      obtain ⟨y, hy⟩ : ∃ y, m[pre l m]? = some y := ⟨_, List.getElem?_eq_getElem (by omega)⟩
      have hcd := cmpT_diff l m x y hx hy
      rw [hcd]
      obtain ⟨b, o, rfl, -, hb1, c0, c1, c2⟩ := hat.out _ x hx
      obtain ⟨b', o', rfl, -, hb2, d0, d1, d2⟩ := hbt.out _ y hy
      obtain ⟨xk, xn, xs⟩ := x
      obtain ⟨yk, yn, ys⟩ := y
      have hc := hide (fun w => compare_c xk xn yk yn xs ys w)
      have hpb : (((pre l m : Nat) : Int) == l.length) = false := by rw [beq_eq_false_iff_ne]; omega
      have hp1 : pre l m < l.length := by omega
      have hp2 : pre l m < m.length := by omega
      haveI : In b w := ⟨hb1⟩
      haveI : In b' w := ⟨hb2⟩
      generalize pre l m = q at *
      clear hcd hp e0 hlt hat hbt hx hy hpl ha hb oa ob hl hm
      go_enter Tryz.func125, Tryz.ntmps125
      go_wp2_with (first | (go_at_call 122; (with_reducible refine seq_gw (h1.out _ hX0.out) ?_); intro g) | (go_at_call 122; (with_reducible refine seq_gw' (h2.out _ (hX0.out.trans g.grown)) ?_); intro g2) | (go_at_call 165; (with_reducible refine seq_gw' (hf.out _ g2.grown) ?_); intro g3))
      refine wp_region_gw (by kernel_rfl) (by kernel_rfl) ?_
      repeat (go_big_quiet_step ((go_at_call 168; with_reducible exact quiet_gw (hc.out _))))
      refine wpQuiet_nil ?_
      intro g4
      go_wp2_with fail
      go_returns
      exact ⟨rfl, hX0.out.trans (g3.grown.trans g4.grown)⟩
theorem rowCompare_c (hl : Rw w [] v l) (hm : Rw w [] u m) : Calls Tryz.prog 125 #[v, u] w fun e w' => e = .returned (.int .i64 (cmpR l m)) ∧ Ext w w' := by
  cases h : (mayR l && mayR m)
  · rw [show cmpR l m = 0 by unfold cmpR; rw [h]; rfl]
    exact rowCompareNo_c hl hm h
  · rw [show cmpR l m = cmpT l m by unfold cmpR; rw [h]; rfl]
    rw [Bool.and_eq_true] at h
    exact rowCompareYes_c hl hm h.1 h.2
set_option maxHeartbeats 4000000 in
set_option maxRecDepth 100000 in
theorem refRowCompare_c (hl : Rw w [] v l) (hm : Rw w [] u m) : Calls Tryz.prog 115 #[v, u] w fun e w' => e = .returned (.int .i64 (cmpR l m)) ∧ Ext w w' := by
  have h1 := hide (fun w' (hX : Ext w w') => refRowMay_c l v w' (Sl.ext hl hX))
  have h2 := hide (fun w' (hX : Ext w w') => refRowMay_c m u w' (Sl.ext hm hX))
  obtain ⟨A, cap, rfl, hlc, hlm, hat⟩ := rw_form hl
  obtain ⟨B, cap2, rfl, hmc, hmm, hbt⟩ := rw_form hm
  unfold maxLen at hlm hmm
  replace hat := hide hat
  replace hbt := hide hbt
  have hX0 := hide (Ext.refl w)
  clear hl hm
  cases ha : mayR l
  · rw [show cmpR l m = 0 by unfold cmpR; rw [ha]; rfl]
    rw [ha] at h1
    clear ha
    go_enter Tryz.func115, Tryz.ntmps115
    go_wp2_with (go_at_call 113; (with_reducible refine seq_gw (h1.out _ hX0.out) ?_); intro g)
    go_returns
    exact ⟨rfl, g.grown⟩
  cases hb : mayR m
  · rw [show cmpR l m = 0 by unfold cmpR; rw [ha, hb]; rfl]
    rw [ha] at h1
    rw [hb] at h2
    clear ha hb
    go_enter Tryz.func115, Tryz.ntmps115
    go_wp2_with (first | (go_at_call 113; (with_reducible refine seq_gw (h1.out _ hX0.out) ?_); intro g) | (go_at_call 113; (with_reducible refine seq_gw' (h2.out _ g.grown) ?_); intro g2))
    go_returns
    exact ⟨rfl, g2.grown⟩
  rw [show cmpR l m = cmpT l m by unfold cmpR; rw [ha, hb]; rfl]
  rw [ha] at h1
  rw [hb] at h2
  have hma := hide (mayR_iff.1 ha).2
  have hmb := hide (mayR_iff.1 hb).2
  obtain ⟨R, hR⟩ : ∃ R, R = cmpT l m := ⟨_, rfl⟩
  rw [← hR]
  replace hR := hide hR
  clear ha hb
  go_enter Tryz.func115, Tryz.ntmps115
  go_wp2_with (first | (go_at_call 113; (with_reducible refine seq_gw (h1.out _ hX0.out) ?_); intro g) | (go_at_call 113; (with_reducible refine seq_gw' (h2.out _ g.grown) ?_); intro g2))
  go_loopg [5] l.length (fun gh i wr => ∃ (k : Nat), i = .int .i64 k ∧ k + gh = l.length ∧ k ≤ m.length ∧ Hid (R = cmpT (l.drop k) (m.drop k)) ∧ Ext w wr)
  case atStart => exact ⟨0, rfl, by omega, Nat.zero_le _, by simpa using hR, g2.grown⟩
  case round =>
    obtain ⟨k, rfl, hk, hkm, hRk, hX⟩ := hrel
    clear hR h1 h2 hX0
    by_cases hlt : k < l.length ∧ k < m.length
    · obtain ⟨hlt1, hlt2⟩ := hlt
      obtain ⟨x, hx⟩ : ∃ x, l[k]? = some x := ⟨_, List.getElem?_eq_getElem hlt1⟩
      obtain ⟨y, hy⟩ : ∃ y, m[k]? = some y := ⟨_, List.getElem?_eq_getElem hlt2⟩
      obtain ⟨b, o, rfl, -, hb, c0, c1, c2⟩ := hat.out k x hx
      obtain ⟨b', o', rfl, -, hb', d0, d1, d2⟩ := hbt.out k y hy
      have k0 := cell_later hX c0
      have k1 := cell_later hX c1
      have k2 := cell_later hX c2
      have j0 := cell_later hX d0
      have j1 := cell_later hX d1
      have j2 := cell_later hX d2
      haveI : In b wr := ⟨block_lt_of_cell k0⟩
      haveI : In b' wr := ⟨block_lt_of_cell j0⟩
      have hR2 := hRk.out
      rw [drop_cons hx, drop_cons hy] at hR2
      simp only [cmpT] at hR2
      have hxm := hma.out x (List.mem_of_getElem? hx)
      have hym := hmb.out y (List.mem_of_getElem? hy)
      have hz := cmpV_zero hxm hym
      obtain ⟨xk, xn, xs⟩ := x
      obtain ⟨yk, yn, ys⟩ := y
      have hc := hide (fun w => refCompare_c xk xn yk yn xs ys w)
      clear c0 c1 c2 d0 d1 d2 hat hbt hx hy hxm hym hma hmb hRk
      by_cases hxy : (xk, xn, xs) = (yk, yn, ys)
      · rw [if_pos hxy] at hR2
        rw [hz.2 hxy] at hc
        replace hR2 := hide hR2
        clear hz hxy
        go_wp2_with fail
        refine wp_region_gw (by kernel_rfl) (by kernel_rfl) ?_
        repeat (go_big_quiet_step ((go_at_call 152; with_reducible exact quiet_gw (hc.out _))))
        refine wpQuiet_nil ?_
        intro g4
        go_wp2_with fail
        go_roundg (l.length - (k + 1))
        case measure => omega
        case rel => exact ⟨k + 1, by go_num, by omega, by omega, hR2, hX.trans g4.grown⟩
      · rw [if_neg hxy] at hR2
        have hne : (cmpV (xk, xn, xs) (yk, yn, ys) != 0) = true := by rw [bne_iff_ne]; exact fun h => hxy (hz.1 h)
        generalize cmpV (xk, xn, xs) (yk, yn, ys) = c at *
        replace hR2 := hide hR2
        clear hz hxy
        go_wp2_with fail
        refine wp_region_gw (by kernel_rfl) (by kernel_rfl) ?_
        repeat (go_big_quiet_step ((go_at_call 152; with_reducible exact quiet_gw (hc.out _))))
        refine wpQuiet_nil ?_
        intro g4
        go_wp2_with fail
        go_returns
        exact ⟨by rw [hR2.out]; rfl, hX.trans g4.grown⟩
    · have hR2 := hRk.out
      rcases Nat.lt_trichotomy l.length m.length with h | h | h
      · have hkl : k = l.length := by omega
        have e : cmpT (l.drop k) (m.drop k) = -1 := by
          obtain ⟨y, hy⟩ : ∃ y, m[k]? = some y := ⟨_, List.getElem?_eq_getElem (by omega)⟩
          rw [drop_cons hy, List.drop_eq_nil_of_le (by omega)]; rfl
        rw [e] at hR2
        replace hR2 := hide hR2
        have hI1 : (l.length : Int) < m.length := by omega
        have hI2 : (l.length : Int) ≤ k := by omega
        clear e hRk
        replace hkl := hide hkl
        go_wp2_with fail
        go_returns
        exact ⟨by rw [hR2.out]; rfl, hX⟩
      · have hkl : k = l.length := by omega
        have e : cmpT (l.drop k) (m.drop k) = 0 := by
          rw [List.drop_eq_nil_of_le (by omega), List.drop_eq_nil_of_le (by omega)]; rfl
        rw [e] at hR2
        replace hR2 := hide hR2
        have hI1 : ¬ (l.length : Int) < m.length := by omega
        have hI3 : ¬ (m.length : Int) < l.length := by omega
        have hI2 : (l.length : Int) ≤ k := by omega
        clear e hRk
        replace hkl := hide hkl
        replace h := hide h
        go_wp2_with fail
        go_returns
        exact ⟨by rw [hR2.out]; rfl, hX⟩
      · have hkl : k = m.length := by omega
        have e : cmpT (l.drop k) (m.drop k) = 1 := by
          obtain ⟨y, hy⟩ : ∃ y, l[k]? = some y := ⟨_, List.getElem?_eq_getElem (by omega)⟩
          have e3 : m.drop k = [] := List.drop_eq_nil_of_le (by omega)
          rw [drop_cons hy, e3]; rfl
        rw [e] at hR2
        replace hR2 := hide hR2
        have hI1 : ¬ (l.length : Int) < m.length := by omega
        have hI3 : (m.length : Int) < l.length := by omega
        have hI2 : (m.length : Int) ≤ k := by omega
        have hI4 : (k : Int) < l.length := by omega
        clear e hRk
        replace hkl := hide hkl
        go_wp2_with fail
        go_returns
        exact ⟨by rw [hR2.out]; rfl, hX⟩
end
end Go.Proofs.YtljkneajdndgjaaGreat
