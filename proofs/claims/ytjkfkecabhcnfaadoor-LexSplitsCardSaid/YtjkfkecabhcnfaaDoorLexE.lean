/-
  A helper of ours: no claim of its own. Layer 19 (lex): tokens where they lie; tokens held against each other, by the code.
-/
import Derived.Test.YtjkfkecabhcnfaaDoorLexD
import Derived.Test.YtjkfkecabhcnfaaDoorReg3
set_option linter.unusedVariables false
set_option linter.unusedSimpArgs false
namespace Go.Proofs.YtjkfkecabhcnfaaDoor
open Go.RowKit
attribute [local go_sem] GW.cell GW.frozen In.eq_true In.le_true In.ne In.ne' In.ne_add In.ne_add' In.lt_add Upto.le_true Upto.le_add Upto.lt_add
/-- Tokens, where they lie. -/
abbrev Tw (w : World) (S : List Nat) (v : Value) (l : List Tk) : Prop := Sl w S 2 v l.length (tkc l)
theorem tkc_length (l : List Tk) : (tkc l).length = l.length * 2 := by
  induction l with
  | nil => rfl
  | cons p r ih => simp only [tkc, List.flatMap_cons, List.length_append, List.length_cons, List.length_nil] at ih ⊢; omega
theorem tkc_get : ∀ (l : List Tk) (i : Nat) (p : Tk), l[i]? = some p → (tkc l)[i * 2]? = some (.int .i64 p.1) ∧ (tkc l)[i * 2 + 1]? = some (.string ⟨p.2.toArray⟩)
  | q :: r, 0, p, h => by simp at h; subst h; exact ⟨rfl, rfl⟩
  | q :: r, i + 1, p, h => by
    have := tkc_get r i p (by simpa using h)
    rw [show (i + 1) * 2 = i * 2 + 1 + 1 by omega]
    simpa [tkc] using this
theorem tw_form {w : World} {S : List Nat} {v : Value} {l : List Tk} (h : Tw w S v l) : ∃ A cap, v = .slice A l.length cap ∧ l.length ≤ cap ∧ cap ≤ maxLen ∧
    ∀ (i : Nat) (x : Tk), l[i]? = some x → ∃ b o, A = some ⟨b, o, none⟩ ∧ b ∉ S ∧ b < w.heap.size ∧ w.cell? ⟨b, o + i * 2, none⟩ = some (.int .i64 x.1) ∧ w.cell? ⟨b, o + i * 2 + 1, none⟩ = some (.string ⟨x.2.toArray⟩) := by
  obtain ⟨A, cap, rfl, h1, h2, h3, h4⟩ := h
  refine ⟨A, cap, rfl, h1, h2, fun i x hx => ?_⟩
  have hg := tkc_get l i x hx
  rcases h4 with h4 | ⟨b, o, rfl, hb, hc⟩
  · rw [h4] at hg; cases hg.1
  · have c0 := hc _ _ hg.1
    have c1 := hc _ _ hg.2
    rw [← Nat.add_assoc] at c1
    exact ⟨b, o, rfl, hb, block_lt_of_cell c0, c0, c1⟩
theorem cell_later' {W w : World} (h : Ext W w) {b o : Nat} {u : Value} (hc : W.cell? ⟨b, o, none⟩ = some u) : w.cell? ⟨b, o, none⟩ = some u := (Below.cell (p := ⟨b, o, none⟩) h (block_lt_of_cell hc)).trans hc
theorem own_tw {w : World} {B : Nat} {S : List Nat} {v : Value} {l : List Tk} (h : OwnK w B v l) (hs : ∀ b, b ∈ S → b < B) : Tw w S v l := Sl.own h hs
abbrev tokO (k : Int) (s : ByteArray) : Value := .agg #[.int .i64 k, .string s]
theorem neq_tok (k m : Int) (s t : ByteArray) (w : World) : (binOp .neq 33 (tokO k s) (tokO m t)).run Tryd.prog w = .ok (.bool (!(k == m && s.toList == t.toList))) w := by
  by_cases h1 : k = m <;> by_cases h3 : s.toList = t.toList <;> simp [go_sem, h1, h3]
theorem drop_consT {l : List Tk} {k : Nat} {x : Tk} (h : l[k]? = some x) : l.drop k = x :: l.drop (k + 1) := by
  have hk := (List.getElem?_eq_some_iff.1 h).1
  rw [List.drop_eq_getElem_cons hk]
  congr 1
  exact (List.getElem?_eq_some_iff.1 h).2
theorem tok_eqB (x y : Tk) : ((x.1 == y.1) && ((⟨x.2.toArray⟩ : ByteArray).toList == (⟨y.2.toArray⟩ : ByteArray).toList)) = decide (x = y) := by
  rw [Lib.toList_data, Lib.toList_data]
  obtain ⟨a, b⟩ := x
  obtain ⟨c, d⟩ := y
  simp only
  rw [Bool.eq_iff_iff, Bool.and_eq_true, beq_iff_eq, beq_iff_eq, decide_eq_true_iff]
  simp [Prod.ext_iff]
section
variable {l m : List Tk} {v u : Value} {w : World}
set_option maxHeartbeats 4000000 in
set_option maxRecDepth 100000 in
theorem tokEqual_c (hl : Tw w [] v l) (hm : Tw w [] u m) : Calls Tryd.prog 23 #[v, u] w fun e w' => e = .returned (.bool (decide (l = m))) ∧ Ext w w' := by
  obtain ⟨A, cap, rfl, hlc, hlm, hat⟩ := tw_form hl
  obtain ⟨B, cap2, rfl, hmc, hmm, hbt⟩ := tw_form hm
  unfold maxLen at hlm hmm
  clear hl hm
  replace hat := hide hat
  replace hbt := hide hbt
  obtain ⟨R, hR⟩ : ∃ R, R = decide (l = m) := ⟨_, rfl⟩
  rw [← hR]
  by_cases hn : l.length = m.length
  · replace hR := hide hR
    obtain ⟨n, hln⟩ : ∃ n, n = l.length := ⟨_, rfl⟩
    have hmn : n = m.length := by omega
    rw [← hln] at hlc ⊢
    rw [← hmn] at hmc ⊢
    have hlI := hide hln
    have hmI := hide hmn
    clear hn hln hmn
    go_enter Tryd.func23, Tryd.ntmps23
    go_wp2_with fail
    go_loopg [13] n (fun gh i wr => ∃ (k : Nat), i = .int .i64 k ∧ k + gh = n ∧ Hid (R = decide (l.drop k = m.drop k)) ∧ Ext w wr)
    case atStart => exact ⟨0, rfl, by omega, hR, Ext.refl w⟩
    case round =>
      obtain ⟨k, rfl, hk, hRk, hX⟩ := hrel
      clear hR
      by_cases hlt : k < n
      · obtain ⟨x, hx⟩ : ∃ x, l[k]? = some x := ⟨_, List.getElem?_eq_getElem (by have := hlI.out; omega)⟩
        obtain ⟨y, hy⟩ : ∃ y, m[k]? = some y := ⟨_, List.getElem?_eq_getElem (by have := hmI.out; omega)⟩
        obtain ⟨b, o, rfl, -, hb, c0, c1⟩ := hat.out k x hx
        obtain ⟨b', o', rfl, -, hb', d0, d1⟩ := hbt.out k y hy
        have k0 := cell_later' hX c0
        have k1 := cell_later' hX c1
        have j0 := cell_later' hX d0
        have j1 := cell_later' hX d1
        have hbr : b < wr.heap.size := block_lt_of_cell k0
        have hbr' : b' < wr.heap.size := block_lt_of_cell j0
        have hR2 := hRk.out
        rw [drop_consT hx, drop_consT hy] at hR2
        have hns := neq_tok x.1 y.1 ⟨x.2.toArray⟩ ⟨y.2.toArray⟩
        rw [tok_eqB x y] at hns
        obtain ⟨xk, xs⟩ := x
        obtain ⟨yk, ys⟩ := y
        simp only at k0 k1 j0 j1 hns
        clear c0 c1 d0 d1 hat hbt hx hy hlI hmI hRk
        by_cases hxy : ((xk, xs) : Tk) = (yk, ys)
        · have e : decide (((xk, xs) : Tk) :: l.drop (k + 1) = (yk, ys) :: m.drop (k + 1)) = decide (l.drop (k + 1) = m.drop (k + 1)) := by rw [hxy]; simp
          rw [e] at hR2
          replace hR2 := hide hR2
          rw [decide_eq_true hxy] at hns
          clear e hxy
          generalize (⟨xs.toArray⟩ : ByteArray) = sx at *
          generalize (⟨ys.toArray⟩ : ByteArray) = sy at *
          go_wp2_with fail
          go_quiet (fail)
          go_wp2_with fail
          go_roundg (n - (k + 1))
          case measure => omega
          case rel => exact ⟨k + 1, by go_num, by omega, hR2, hX.drewN _⟩
        · have e : decide (((xk, xs) : Tk) :: l.drop (k + 1) = (yk, ys) :: m.drop (k + 1)) = false := by rw [decide_eq_false_iff_not]; intro h; injection h with h1 _; exact hxy h1
          rw [e] at hR2
          replace hR2 := hide hR2
          rw [decide_eq_false hxy] at hns
          clear e hxy
          generalize (⟨xs.toArray⟩ : ByteArray) = sx at *
          generalize (⟨ys.toArray⟩ : ByteArray) = sy at *
          go_wp2_with fail
          go_quiet (fail)
          go_wp2_with fail
          go_returns
          exact ⟨by rw [hR2.out]; rfl, hX.drewN _⟩
      · have hk' : k = n := by omega
        have hge : (n : Int) ≤ k := by omega
        have hR2 := hRk.out
        rw [List.drop_eq_nil_of_le (by have := hlI.out; omega), List.drop_eq_nil_of_le (by have := hmI.out; omega)] at hR2
        replace hR2 : R = true := by simpa using hR2
        replace hR2 := hide hR2
        replace hk' := hide hk'
        go_wp2_with fail
        go_returns
        exact ⟨by rw [hR2.out]; rfl, hX⟩
  · have hRf : Hid (R = false) := by
      show _ = _
      rw [hR, decide_eq_false_iff_not]; intro e; exact hn (by rw [e])
    have hb : ((l.length : Int) != (m.length : Int)) = true := by rw [bne_iff_ne]; omega
    clear hR hn hat hbt
    go_enter Tryd.func23, Tryd.ntmps23
    go_wp2_with fail
    go_returns
    exact ⟨by rw [hRf.out]; rfl, Ext.refl w⟩
end
set_option maxHeartbeats 1000000 in
theorem tokSame_c {l m : List Tk} {v u : Value} {w : World} (hl : Tw w [] v l) (hm : Tw w [] u m) : Calls Tryd.prog 15 #[v, u] w fun e w' => e = .returned (.bool (decide (l = m))) ∧ Ext w w' := by
  have h := hide (tokEqual_c hl hm)
  generalize decide (l = m) = b at *
  clear hl hm
  go_enter Tryd.func15, Tryd.ntmps15
  go_wp2_with (go_at_call 23; (with_reducible refine seq_gw h.out ?_); intro g)
  go_returns
  exact ⟨rfl, g.grown⟩
end Go.Proofs.YtjkfkecabhcnfaaDoor
