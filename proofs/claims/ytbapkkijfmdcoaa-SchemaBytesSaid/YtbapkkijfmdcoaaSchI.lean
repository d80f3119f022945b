/-
  A helper of ours: no claim of its own. Layer 7 (schema): which rows fit; how a schema is written, on both sides.
-/
import Derived.Test.YtbapkkijfmdcoaaSchH
import Derived.Test.YtbapkkijfmdcoaaRowF
import Derived.Test.YtbapkkijfmdcoaaReg3
set_option linter.unusedVariables false
set_option linter.unusedSimpArgs false
namespace Go.Proofs.Ytbapkkijfmdcoaa
open Go.RowKit
attribute [local go_sem] GW.cell GW.frozen In.eq_true In.le_true In.ne In.ne' In.ne_add In.ne_add' In.lt_add Upto.le_true Upto.le_add Upto.lt_add
/-- Does the row fit? -/
def fitsS (l : List Cl) (r : List Vl) : Bool := mayS l && (mayR r && eqP (fun (x : Cl) (y : Vl) => x.2 == y.1) l r)
set_option maxHeartbeats 4000000 in
set_option maxRecDepth 100000 in
theorem refFitsL_c {l : List Cl} {m : List Vl} {v u : Value} {w : World} (hl : Cw w [] v l) (hm : Rw w [] u m) (ha : mayS l = true) (hb : mayR m = true) : Calls Try.prog 19 #[v, u] w fun e w' => e = .returned (.bool (eqP (fun (x : Cl) (y : Vl) => x.2 == y.1) l m)) ∧ Ext w w' := by
  have h1 := hide (refMayS_c l v w hl)
  rw [ha] at h1
  have h2 := hide (fun w' (hX : Ext w w') => refRowMay_c m u w' (Sl.ext hm hX))
  rw [hb] at h2
  clear ha hb
  obtain ⟨A, cap, rfl, hlc, hlm, hat⟩ := cw_form hl
  obtain ⟨B, cap2, rfl, hmc, hmm, hbt⟩ := rw_form hm
  unfold maxLen at hlm hmm
  clear hl hm
  replace hat := hide hat
  replace hbt := hide hbt
  obtain ⟨R, hR⟩ : ∃ R, R = eqP (fun (x : Cl) (y : Vl) => x.2 == y.1) l m := ⟨_, rfl⟩
  rw [← hR]
  by_cases hn : l.length = m.length
  · replace hR := hide hR
    obtain ⟨n, hln⟩ : ∃ n, n = l.length := ⟨_, rfl⟩
    have hmn : n = m.length := by omega
    rw [← hln] at hlc h1 ⊢
    rw [← hmn] at hmc h2 ⊢
    have hlI := hide hln
    have hmI := hide hmn
    clear hn hln hmn
    go_enter Try.func19, Try.ntmps19
    go_wp2_with (first | (go_at_call 13; (with_reducible refine seq_gw h1.out ?_); intro g) | (go_at_call 48; (with_reducible refine seq_gw' (h2.out _ g.grown) ?_); intro g2))
    go_loopg [5] n (fun gh i wr => ∃ (k : Nat), i = .int .i64 k ∧ k + gh = n ∧ Hid (R = eqP (fun (x : Cl) (y : Vl) => x.2 == y.1) (l.drop k) (m.drop k)) ∧ Ext w wr)
    case atStart => exact ⟨0, rfl, by omega, hR, g2.grown⟩
    case round =>
      obtain ⟨k, rfl, hk, hRk, hX⟩ := hrel
      clear hR
      by_cases hlt : k < n
      · obtain ⟨x, hx⟩ : ∃ x, l[k]? = some x := ⟨_, List.getElem?_eq_getElem (by have := hlI.out; omega)⟩
        obtain ⟨y, hy⟩ : ∃ y, m[k]? = some y := ⟨_, List.getElem?_eq_getElem (by have := hmI.out; omega)⟩
        obtain ⟨b, o, rfl, -, hb, c0, c1⟩ := hat.out k x hx
        obtain ⟨b', o', rfl, -, hb', d0, d1, d2⟩ := hbt.out k y hy
        have k0 := cell_later hX c0
        have k1 := cell_later hX c1
        have j0 := cell_later hX d0
        have j1 := cell_later hX d1
        have j2 := cell_later hX d2
        have hbr : b < wr.heap.size := block_lt_of_cell k0
        have hbr' : b' < wr.heap.size := block_lt_of_cell j0
        have hR2 := hRk.out
        rw [drop_cons hx, drop_cons hy] at hR2
        obtain ⟨xn, xk⟩ := x
        obtain ⟨yk, yv, yn⟩ := y
        clear c0 c1 d0 d1 d2 hat hbt hx hy hlI hmI hRk
        by_cases hxy : xk = yk
        · rw [eqP_yes (p := (fun (x : Cl) (y : Vl) => x.2 == y.1)) (x := (xn, xk)) (y := (yk, yv, yn)) (by simp [hxy])] at hR2
          replace hR2 := hide hR2
          subst hxy
          go_wp2_with fail
          go_quiet (fail)
          go_wp2_with fail
          go_roundg (n - (k + 1))
          case measure => omega
          case rel => exact ⟨k + 1, by go_num, by omega, hR2, hX.drewN _⟩
        · rw [eqP_no (p := (fun (x : Cl) (y : Vl) => x.2 == y.1)) (x := (xn, xk)) (y := (yk, yv, yn)) (by simp [hxy])] at hR2
          replace hR2 := hide hR2
          have hns : (xk == yk) = false := by rw [beq_eq_false_iff_ne]; exact hxy
          replace hxy := hide hxy
          go_wp2_with fail
          go_quiet (fail)
          go_wp2_with fail
          go_returns
          exact ⟨by rw [hR2.out]; rfl, hX.drewN _⟩
      · have hk' : k = n := by omega
        have hge : (n : Int) ≤ k := by omega
        have hR2 := hRk.out
        rw [List.drop_eq_nil_of_le (by have := hlI.out; omega), List.drop_eq_nil_of_le (by have := hmI.out; omega)] at hR2
        replace hR2 : R = true := hR2
        replace hR2 := hide hR2
        replace hk' := hide hk'
        go_wp2_with fail
        go_returns
        exact ⟨by rw [hR2.out]; rfl, hX⟩
  · have hR2 := hR.trans (eqP_len hn)
    replace hR2 := hide hR2
    have hnI : ¬ (l.length : Int) = m.length := by omega
    clear hR hn
    go_enter Try.func19, Try.ntmps19
    go_wp2_with (first | (go_at_call 13; (with_reducible refine seq_gw h1.out ?_); intro g) | (go_at_call 48; (with_reducible refine seq_gw' (h2.out _ g.grown) ?_); intro g2))
    go_returns
    exact ⟨by rw [hR2.out]; rfl, g2.grown⟩
set_option maxHeartbeats 2000000 in
theorem fitsS_c {l : List Cl} {m : List Vl} {v u : Value} {w : World} (hl : Cw w [] v l) (hm : Rw w [] u m) : Calls Try.prog 18 #[v, u] w fun e w' => e = .returned (.bool (fitsS l m)) ∧ Ext w w' := by
  have hl' := hl
  have hm' := hm
  have h1 := hide (mayS_c l v w hl)
  have h2 := hide (fun w' (hX : Ext w w') => rowMay_c m u w' (Sl.ext hm hX))
  obtain ⟨A, cap, rfl, hlc, hlm, -⟩ := cw_form hl
  obtain ⟨B, cap2, rfl, hmc, hmm, -⟩ := rw_form hm
  unfold fitsS
  cases ha : mayS l
  · rw [ha] at h1
    rw [Bool.false_and]
    clear ha hl hm hl' hm' h2
    go_enter Try.func18, Try.ntmps18
    go_wp2_with (go_at_call 12; (with_reducible refine seq_gw h1.out ?_); intro g)
    go_returns
    exact ⟨rfl, g.grown⟩
  cases hb : mayR m
  · rw [ha] at h1
    rw [hb] at h2
    rw [Bool.false_and, Bool.and_false]
    clear ha hb hl hm hl' hm'
    go_enter Try.func18, Try.ntmps18
    go_wp2_with (first | (go_at_call 12; (with_reducible refine seq_gw h1.out ?_); intro g) | (go_at_call 45; (with_reducible refine seq_gw' (h2.out _ g.grown) ?_); intro g2))
    go_returns
    exact ⟨rfl, g2.grown⟩
  rw [Bool.true_and, Bool.true_and]
  have he := hide (fun w' (hX : Ext w w') => equalFunc2_c (Sl.ext hl' hX) (Sl.ext hm' hX))
  rw [ha] at h1
  rw [hb] at h2
  generalize eqP (fun (x : Cl) (y : Vl) => x.2 == y.1) l m = R at *
  clear ha hb hl hm hl' hm'
  go_enter Try.func18, Try.ntmps18
  go_wp2_with (first | (go_at_call 12; (with_reducible refine seq_gw h1.out ?_); intro g) | (go_at_call 45; (with_reducible refine seq_gw' (h2.out _ g.grown) ?_); intro g2) | (go_at_call 46; (with_reducible refine seq_gw' (he.out _ g2.grown) ?_); intro g3))
  go_returns
  exact ⟨rfl, g3.grown⟩
set_option maxHeartbeats 2000000 in
theorem refFitsS_c {l : List Cl} {m : List Vl} {v u : Value} {w : World} (hl : Cw w [] v l) (hm : Rw w [] u m) : Calls Try.prog 19 #[v, u] w fun e w' => e = .returned (.bool (fitsS l m)) ∧ Ext w w' := by
  have hl' := hl
  have hm' := hm
  have h1 := hide (refMayS_c l v w hl)
  have h2 := hide (fun w' (hX : Ext w w') => refRowMay_c m u w' (Sl.ext hm hX))
  obtain ⟨A, cap, rfl, hlc, hlm, -⟩ := cw_form hl
  obtain ⟨B, cap2, rfl, hmc, hmm, -⟩ := rw_form hm
  unfold fitsS
  cases ha : mayS l
  · rw [ha] at h1
    rw [Bool.false_and]
    clear ha hl hm hl' hm' h2
    go_enter Try.func19, Try.ntmps19
    go_wp2_with (go_at_call 13; (with_reducible refine seq_gw h1.out ?_); intro g)
    go_returns
    exact ⟨rfl, g.grown⟩
  cases hb : mayR m
  · rw [ha] at h1
    rw [hb] at h2
    rw [Bool.false_and, Bool.and_false]
    clear ha hb hl hm hl' hm'
    go_enter Try.func19, Try.ntmps19
    go_wp2_with (first | (go_at_call 13; (with_reducible refine seq_gw h1.out ?_); intro g) | (go_at_call 48; (with_reducible refine seq_gw' (h2.out _ g.grown) ?_); intro g2))
    go_returns
    exact ⟨rfl, g2.grown⟩
  rw [Bool.true_and, Bool.true_and]
  exact refFitsL_c hl' hm' ha hb
/-- What stands for a kind, in bytes. -/
def wordB (k : Int) : ByteArray := if k = 1 then ⟨#[110, 117, 109, 98, 101, 114]⟩ else ⟨#[116, 101, 120, 116]⟩
/-- A column written. -/
def colT (c : Cl) : ByteArray := c.1 ++ ⟨#[32]⟩ ++ wordB c.2
def showS (l : List Cl) : ByteArray := if mayS l then ⟨(Lib.join (l.map fun c => (colT c).data.toList) [44, 32]).toArray⟩ else ⟨#[]⟩
theorem cat_size (a b : ByteArray) : (a ++ b).size = a.size + b.size := ByteArray.size_append
theorem wordB_size (k : Int) : (wordB k).size ≤ 6 := by unfold wordB; split <;> decide
theorem okC_size {c : Cl} (h : okC c = true) : c.1.size ≤ 16 := by
  unfold okC nameB at h
  rw [Bool.and_eq_true, Bool.and_eq_true, decide_eq_true_iff, decide_eq_true_iff] at h
  exact h.2.1.2
theorem colT_size {c : Cl} (h : okC c = true) : (colT c).size ≤ 23 := by
  have h1 := okC_size h
  have h2 := wordB_size c.2
  unfold colT
  rw [cat_size, cat_size]
  have : (⟨#[32]⟩ : ByteArray).size = 1 := rfl
  omega
set_option maxHeartbeats 1000000 in
theorem word_c (k : Int) (w : World) : Calls Try.prog 55 #[.int .i64 k] w fun e w' => e = .returned (.string (wordB k)) ∧ Ext w w' := by
  unfold wordB
  by_cases h : k = 1
  · subst h
    rw [if_pos rfl]
    go_enter Try.func55, Try.ntmps55
    go_wp2_with fail
    go_returns
    exact ⟨rfl, Ext.refl w⟩
  · rw [if_neg h]
    have h2 : (k == 1) = false := by rw [beq_eq_false_iff_ne]; exact h
    clear h
    go_enter Try.func55, Try.ntmps55
    go_wp2_with fail
    go_returns
    exact ⟨rfl, Ext.refl w⟩
theorem run_cat {P : Program} {t : TypeId} (ht : P.underlying t = some .string) (a b : ByteArray) (h : a.size + b.size ≤ 1000) (w : World) : (binOp .add t (.string a) (.string b)).run P w = .ok (.string (a ++ b)) w := by
  simp [go_sem, ht]
  omega
theorem buildT1 (s : ByteArray) (w : World) : (Instr.buildSlice 74 1 #[(0, .string s)]).run Try.prog w = .ok (.slice (some ⟨w.heap.size, 0, none⟩) 1 1) (w.alloc (.cells #[.string s] 9)) := by
  simp [go_sem]
abbrev Tw (w : World) (v : Value) (l : List ByteArray) : Prop := Sl w [] 1 v l.length (sc l)
def oneT (s : ByteArray) : Fact := .st (fun u w => Tw w u [s]) (fun _ _ _ h k => Sl.ext h k)
theorem oneT_new (s : ByteArray) (w : World) : Tw (w.alloc (.cells #[.string s] 9)) (.slice (some ⟨w.heap.size, 0, none⟩) 1 1) [s] :=
  Sl.own (World.ownsRow_lit (base := w.heap.size) (e := 9) (size := 1) w #[.string s] 1 (Nat.le_refl _) (by decide) rfl) (by simp)
theorem tw_form1 {w : World} {v : Value} {s : ByteArray} (h : Tw w v [s]) : ∃ A cap, v = .slice A 1 cap := by obtain ⟨A, cap, e, _⟩ := h; exact ⟨A, cap, e⟩
theorem sc_one (l : List ByteArray) : ∀ u ∈ sc l, u.oneCell' = true := by
  intro u hu; simp only [sc, List.mem_map] at hu; obtain ⟨_, _, rfl⟩ := hu; rfl
set_option maxHeartbeats 8000000 in
set_option maxRecDepth 100000 in
theorem showS_c (l : List Cl) (v : Value) (w : World) (hl : Cw w [] v l) : Calls Try.prog 30 #[v] w fun e w' => e = .returned (.string (showS l)) ∧ Ext w w' := by
  have h1 := hide (fun w' (hX : Ext w w') => mayS_c l v w' (Sl.ext hl hX))
  have hX0 := hide (Ext.refl w)
  obtain ⟨A, cap, rfl, hlc, hlm, hat⟩ := cw_form hl
  unfold maxLen at hlm
  replace hat := hide hat
  clear hl
  unfold showS
  cases hm : mayS l
  · rw [hm] at h1
    rw [if_neg (by decide)]
    clear hm hat
    go_enter Try.func30, Try.ntmps30
    go_wp2_with (go_at_call 12; (with_reducible refine seq_gw (h1.out _ hX0.out) ?_); intro g)
    go_returns
    exact ⟨rfl, g.grown⟩
  rw [hm] at h1
  rw [if_pos rfl]
  obtain ⟨⟨-, l8⟩, hok, -⟩ := mayS_iff.1 hm
  replace hok := hide hok
  have hJ := join_le [44, 32] 23 (l.map fun c => (colT c).data.toList) (by intro x hx; obtain ⟨y, hy, rfl⟩ := List.mem_map.1 hx; rw [nm_len]; exact colT_size (hok.out y hy))
  rw [List.length_map] at hJ
  simp only [List.length_cons, List.length_nil] at hJ
  have hJ2 : (Lib.join (l.map fun c => (colT c).data.toList) [44, 32]).length ≤ 200 := by omega
  obtain ⟨R, hR⟩ : ∃ R, R = Lib.join (l.map fun c => (colT c).data.toList) [44, 32] := ⟨_, rfl⟩
  rw [← hR] at hJ2 ⊢
  replace hR := hide hR
  clear hJ hm
  have htr : ∀ (k : Nat), (l.take k).map (fun c => colT c) = (l.take k).map colT := fun k => rfl
  clear htr
  go_enter Try.func30, Try.ntmps30
  go_wp2_with (go_at_call 12; (with_reducible refine seq_gw (h1.out _ hX0.out) ?_); intro g)
  clear h1 hX0
  go_loopg [3, 11] l.length (fun gh vv i wr => ∃ (k : Nat), i = .int .i64 k ∧ k + gh = l.length ∧ OwnT wr w.heap.size vv ((l.take k).map colT) ∧ Ext w wr)
  case atStart => exact ⟨0, rfl, by omega, World.ownsRow_nil _ _ _ _, g.grown⟩
  case round =>
    obtain ⟨k, rfl, hk, ho, hX⟩ := hrel
    clear g
    have hzX := hX.size
    by_cases hlt : k < l.length
    · obtain ⟨x, hx⟩ : ∃ x, l[k]? = some x := ⟨_, List.getElem?_eq_getElem hlt⟩
      obtain ⟨b0, o0, rfl, -, hb', c0, c1⟩ := hat.out k x hx
      have k0 := cell_later hX c0
      have k1 := cell_later hX c1
      have hbr : b0 < wr.heap.size := block_lt_of_cell k0
      have hlen : ((l.take k).map colT).length = k := by simp; omega
      have hnx := hide (show ((l.take k).map colT) ++ [x.1 ++ ⟨#[32]⟩ ++ wordB x.2] = (l.take (k + 1)).map colT by rw [List.take_add_one, hx]; simp [colT])
      have hs := okC_size (hok.out x (List.mem_of_getElem? hx))
      have hwd := hide (fun w => word_c x.2 w)
      have hw6 := wordB_size x.2
      replace hx := hide hx
      generalize hacc : ((l.take k).map colT) = acc at *
      replace hacc := hide hacc
      obtain ⟨xn, xk⟩ := x
      simp only at hs hw6 hnx hwd k0 k1
      generalize wordB xk = wd at *
      have hak := hide hlen
      have hak8 : acc.length ≤ 8 := by omega
      clear hlen
      have hs1 := hide (show xn.size + (⟨#[32]⟩ : ByteArray).size ≤ 1000 by have : (⟨#[32]⟩ : ByteArray).size = 1 := rfl; omega)
      have hs2 := hide (show (xn ++ ⟨#[32]⟩).size + wd.size ≤ 1000 by rw [cat_size]; have : (⟨#[32]⟩ : ByteArray).size = 1 := rfl; omega)
      have O1 := Ob.new wr 34 [.string xn, .int .i64 xk]
      have q0 := hide (O1.cell 0 rfl)
      have q1 := hide (O1.cell 1 rfl)
      replace ho := hide (own_ext ho ((Ext.refl wr).alloc (.cells #[.string xn, .int .i64 xk] 34)))
      obtain ⟨C, ccap, rfl⟩ := own_form ho.out
      clear c0 c1 hat O1 hs hw6
      go_wp2_with fail
      refine wp_region_list_tail 9 [(.is (.slice C acc.length ccap)), (.is (.pointer (some ⟨wr.heap.size, 0, none⟩))), (.is (.string xn)), (.is (.string (xn ++ (⟨#[32]⟩ : ByteArray)))), (.is (.pointer (some ⟨wr.heap.size, 1, none⟩))), (.is (.int .i64 xk)), (.is (.string wd)), (.is (.string (xn ++ (⟨#[32]⟩ : ByteArray) ++ wd))), oneT (xn ++ (⟨#[32]⟩ : ByteArray) ++ wd)] (by kernel_rfl) (by kernel_rfl) (by kernel_rfl) (by kernel_rfl) (by kernel_rfl) (by kernel_rfl) (by kernel_rfl) ?_ ?_
      · refine ⟨?_, ?_, ?_, ?_, ?_, ?_, ?_, ?_, ?_, trivial⟩
        · intro b w' h hE
          have f3 : b.tmps.getD 3 undef = .slice C acc.length ccap := hE 3 (of_decide_eq_true (by kernel_rfl))
          exact good_move (wanted_none rfl) rfl f3
        · intro b w' h hE
          have f5 : b.tmps.getD 5 undef = .pointer (some ⟨wr.heap.size, 0, none⟩) := hE 5 (of_decide_eq_true (by kernel_rfl))
          exact good_field (wanted_none rfl) rfl f5 (by simp [go_sem]) rfl
        · intro b w' h hE
          have f16 : b.tmps.getD 16 undef = .pointer (some ⟨wr.heap.size, 0, none⟩) := h.dep 1 _ 16 (by kernel_rfl) rfl rfl
          have c0 := cell_later h.ext q0.out
          exact good_load (wanted_none rfl) rfl f16 (by simp [go_sem, c0]) rfl
        · intro b w' h hE
          have f17 : b.tmps.getD 17 undef = .string xn := h.dep 2 _ 17 (by kernel_rfl) rfl rfl
          exact good_bin (wanted_none rfl) rfl f17 rfl (by rfl) (run_cat Try.underlying9 _ _ hs1.out _) rfl
        · intro b w' h hE
          have f5 : b.tmps.getD 5 undef = .pointer (some ⟨wr.heap.size, 0, none⟩) := hE 5 (of_decide_eq_true (by kernel_rfl))
          exact good_field (wanted_none rfl) rfl f5 (by simp [go_sem]) rfl
        · intro b w' h hE
          have f19 : b.tmps.getD 19 undef = .pointer (some ⟨wr.heap.size, 1, none⟩) := h.dep 4 _ 19 (by kernel_rfl) rfl rfl
          have c0 := cell_later h.ext q1.out
          exact good_load (wanted_none rfl) rfl f19 (by simp [go_sem, c0]) rfl
        · intro b w' h hE
          have f20 : b.tmps.getD 20 undef = .int .i64 xk := h.dep 5 _ 20 (by kernel_rfl) rfl rfl
          have g20 : b.tmps[20]?.getD undef = .int .i64 xk := by rw [← Array.getD_eq_getD_getElem?]; exact f20
          exact good_call (wanted_none rfl) rfl (enters Try.func55 (by kernel_rfl) rfl) (by rw [show (#[.tmp 20] : Array Operand).map b.eval = #[.int .i64 xk] by simp [Act.eval, g20]]; exact (hwd.out w').mono fun e w1 ⟨he, hx⟩ => ⟨_, he, rfl, hx⟩)
        · intro b w' h hE
          have f18 : b.tmps.getD 18 undef = .string (xn ++ (⟨#[32]⟩ : ByteArray)) := h.dep 3 _ 18 (by kernel_rfl) rfl rfl
          have f21 : b.tmps.getD 21 undef = .string wd := h.dep 6 _ 21 (by kernel_rfl) rfl rfl
          exact good_bin (wanted_none rfl) rfl f18 f21 (by rfl) (run_cat Try.underlying9 _ _ hs2.out _) rfl
        · intro b w' h hE
          have f22 : b.tmps.getD 22 undef = .string (xn ++ (⟨#[32]⟩ : ByteArray) ++ wd) := h.dep 7 _ 22 (by kernel_rfl) rfl rfl
          have g22 : b.tmps[22]?.getD undef = .string (xn ++ (⟨#[32]⟩ : ByteArray) ++ wd) := by rw [← Array.getD_eq_getD_getElem?]; exact f22
          have := buildT1 (xn ++ (⟨#[32]⟩ : ByteArray) ++ wd) w'
          refine good_grow (w' := w'.alloc (.cells #[.string (xn ++ (⟨#[32]⟩ : ByteArray) ++ wd)] 9)) (v := .slice (some ⟨w'.heap.size, 0, none⟩) 1 1) (wanted_none rfl) ?_ (oneT_new _ w') ((Ext.refl _).alloc _)
          simp [execOp, Act.eval, g22, this, Sem.run_bind, Sem.run_pure, Result.andThen_ok]
      · intro b w2 hX2 hd hz he' hf
        have e15 : b.tmps.getD 15 undef = .slice C acc.length ccap := hf 0 _ 15 (by omega) rfl rfl
        have e16 : b.tmps.getD 16 undef = .pointer (some ⟨wr.heap.size, 0, none⟩) := hf 1 _ 16 (by omega) rfl rfl
        have e17 : b.tmps.getD 17 undef = .string xn := hf 2 _ 17 (by omega) rfl rfl
        have e18 : b.tmps.getD 18 undef = .string (xn ++ (⟨#[32]⟩ : ByteArray)) := hf 3 _ 18 (by omega) rfl rfl
        have e19 : b.tmps.getD 19 undef = .pointer (some ⟨wr.heap.size, 1, none⟩) := hf 4 _ 19 (by omega) rfl rfl
        have e20 : b.tmps.getD 20 undef = .int .i64 xk := hf 5 _ 20 (by omega) rfl rfl
        have e21 : b.tmps.getD 21 undef = .string wd := hf 6 _ 21 (by omega) rfl rfl
        have e22 : b.tmps.getD 22 undef = .string (xn ++ (⟨#[32]⟩ : ByteArray) ++ wd) := hf 7 _ 22 (by omega) rfl rfl
        have f9 : Tw w2 (b.tmps.getD 23 undef) [xn ++ (⟨#[32]⟩ : ByteArray) ++ wd] := hf 8 _ 23 (by omega) rfl rfl
        have e := frame_puts hd hz he'
        obtain ⟨X, hXx⟩ : ∃ X : Nat → Value, ∀ d, b.tmps.getD d undef = X d := ⟨_, fun _ => rfl⟩
        rw [hXx] at e15 e16 e17 e18 e19 e20 e21 e22 f9
        obtain ⟨A23, c23, q23⟩ := tw_form1 f9
        rw [show dstsOf _ = [15, 16, 17, 18, 19, 20, 21, 22, 23] from rfl] at e
        simp only [List.foldl_cons, List.foldl_nil, hXx, Act.put, List.setIfInBounds_toArray, List.set_cons_succ, List.set_cons_zero] at e
        rw [e15, e16, e17, e18, e19, e20, e21, e22, q23] at e
        rw [q23] at f9
        replace f9 := hide f9
        clear hf he' hz hd hXx e15 e16 e17 e18 e19 e20 e21 e22 q23
        subst e
        have hzw := hX2.size
        simp only [List.drop_succ_cons, List.drop_zero]
        go_wp2_with (at_builtin; (refine wpl_app tStr rfl (.tmp 15) (.tmp 23) rfl rfl (own_ext ho.out hX2) rfl (src_sl Try.underlying74 f9.out (sc_one _) (by omega)) (by unfold maxLen; simp only [List.length_singleton]; omega) (by simp only [List.length_singleton]; omega) (by simp only [World.size_alloc] at hzw; omega) ?_; intro v8 w8 ho8 hg8 _; have hX8 := hide (ext_grown ((hX.alloc _).trans hX2) hg8 (fun q hq => (ho.out.lt q hq).1))))
        go_roundg (l.length - (k + 1))
        case measure => omega
        case rel =>
          have ho9 : OwnT w8 w.heap.size v8 (acc ++ [xn ++ (⟨#[32]⟩ : ByteArray) ++ wd]) := own_snocT (by simpa [sc] using ho8)
          rw [hnx.out] at ho9
          exact ⟨k + 1, by go_num, by have := hak.out; omega, ho9, hX8.out⟩
    · have hk' : k = l.length := by omega
      have hge : (l.length : Int) ≤ k := by omega
      rw [List.take_of_length_le (by omega)] at ho
      have hj := join_own ho (by rw [List.length_map]; omega) (by rw [List.map_map, show (fun x : ByteArray => x.data.toList) ∘ colT = (fun c => (colT c).data.toList) from rfl, ← hR.out]; omega)
      rw [List.map_map, show (fun x : ByteArray => x.data.toList) ∘ colT = (fun c => (colT c).data.toList) from rfl, ← hR.out] at hj
      unfold Joins at hj
      replace hj := hide hj
      obtain ⟨J, hJ⟩ : ∃ J, J = (⟨R.toArray⟩ : ByteArray) := ⟨_, rfl⟩
      rw [← hJ] at hj
      replace hJ := hide hJ
      replace hk' := hide hk'
      go_wp2_with (go_at_call 56; (with_reducible refine seq_gw hj.out ?_); intro g)
      go_returns
      exact ⟨by rw [← hJ.out]; rfl, hX.trans g.grown⟩
end Go.Proofs.Ytbapkkijfmdcoaa
