/-
  A helper of ours: no claim of its own. Layer 17 (expr): an expression's bytes, on both sides.
-/
import Derived.Test.YtopgapbipmblbaaExpE
import Derived.Test.YtopgapbipmblbaaEvlS
import Derived.Test.YtopgapbipmblbaaRowK
set_option linter.unusedVariables false
set_option linter.unusedSimpArgs false
namespace Go.Proofs.Ytopgapbipmblbaa
open Go.RowKit
attribute [local go_sem] GW.cell GW.frozen In.eq_true In.le_true In.ne In.ne' In.ne_add In.ne_add' In.lt_add Upto.le_true Upto.le_add Upto.lt_add
/-- What stands behind a word's code. -/
def argB (o : Vl) : List UInt8 := if o.1 = 1 then intB o.2.1 else if o.1 = 2 then textB o.2.2.data.toList else if o.1 = 3 then [UInt8.ofNat o.2.1.toNat] else []
def wordB (o : Vl) : List UInt8 := UInt8.ofNat o.1.toNat :: argB o
def wordsB (l : List Vl) : List UInt8 := l.flatMap wordB
def exprB (l : List Vl) : List UInt8 := if formE l = 0 then UInt8.ofNat l.length :: wordsB l else []
theorem wordsB_snoc (l : List Vl) (x : Vl) : wordsB (l ++ [x]) = wordsB l ++ wordB x := by simp [wordsB]
theorem wordsB_cons (x : Vl) (l : List Vl) : wordsB (x :: l) = wordB x ++ wordsB l := by simp [wordsB]
theorem fE_ok : ∀ (l : List Vl) (h : Int), fE h l = 0 → ∀ x ∈ l, okW x = true
  | [], _, _, x, hx => by simp at hx
  | o :: r, h, he, x, hx => by
    unfold fE at he
    by_cases hc : okW o = true ∧ tkI o.1 ≤ h
    · rw [if_pos hc] at he
      rcases List.mem_cons.1 hx with rfl | hx
      · exact hc.1
      · exact fE_ok r _ he x hx
    · rw [if_neg hc] at he; omega
theorem form_ok {l : List Vl} (h : formE l = 0) : ∀ x ∈ l, okW x = true := by
  obtain ⟨t, g, e, -⟩ := formE_tree h
  exact fE_ok l 0 (by rw [e]; exact fE_of g)
theorem ok_code {o : Vl} (h : okW o = true) : 1 ≤ o.1 ∧ o.1 ≤ 20 := by
  rcases okW_tk h with e | e | e
  · have := tkI_iff0.1 e; omega
  · have := tkI_iff1.1 e; omega
  · have := tkI_iff2.1 e; omega
theorem argB_len {o : Vl} (h : okW o = true) (hi : inW o) : (argB o).length ≤ 75 := by
  unfold argB
  split
  · have h1 : (intB o.2.1).length ≤ 10 := grb_ten (by have := zz_in hi; omega)
    omega
  · split
    · rename_i h1 h2
      have hs : o.2.2.size ≤ 64 := by unfold okW at h; rw [if_neg h1, if_pos h2, Bool.and_eq_true, decide_eq_true_iff, decide_eq_true_iff] at h; exact h.2
      have h3 : (textB o.2.2.data.toList).length ≤ 74 := by
        unfold textB
        rw [List.length_append, size_list]
        have := grb_ten (n := o.2.2.size) (by omega)
        omega
      omega
    · split <;> simp
theorem lenX_lit {n : Nat} (h : n ≤ 64) (B : Nat) (w : World) (hB : B ≤ w.heap.size) : OwnB (w.alloc (.cells #[.int .u8 (n : Int)] 5)) B (.slice (some ⟨w.heap.size, 0, none⟩) 1 1) [UInt8.ofNat n] := by
  have h1 := World.ownsRow_lit (base := B) (e := 5) (size := 1) w #[.int .u8 (n : Int)] 1 hB (by decide) rfl
  have e : bs [UInt8.ofNat n] = [.int .u8 (n : Int)] := by
    simp only [bs, List.map_cons, List.map_nil]
    have : (UInt8.ofNat n).toNat = n := by simp; omega
    rw [this]
  unfold OwnB
  rw [e]
  exact h1
theorem bs_one8 (n : Nat) (h : n ≤ 64) : [Value.int .u8 (n : Int)] = bs [UInt8.ofNat n] := by
  simp only [bs, List.map_cons, List.map_nil]
  have : (UInt8.ofNat n).toNat = n := by simp; omega
  rw [this]
theorem own_app8 {w : World} {B : Nat} {v : Value} {l : List UInt8} {n : Nat} (hn : n ≤ 64) (h : w.ownsRow B 5 1 v (l.length + 1) (bs l ++ [.int .u8 (n : Int)])) : OwnB w B v (l ++ [UInt8.ofNat n]) := by
  rw [bs_one8 n hn] at h
  unfold OwnB
  rw [List.length_append, List.length_singleton]
  simpa [bs] using h
theorem src_cell1b {P : Program} {tx e' : TypeId} (hk : P.underlying tx = some (.slice e')) (w : World) (o : Obj) (u : Value) (hu : u.oneCell' = true) (E : TypeId) : Src P 1 tx (.slice (some ⟨w.heap.size + 1, 0, none⟩) 1 1) 1 [u] ((w.alloc o).alloc (.cells #[u] E)) := by
  have := src_cell1 hk (w.alloc o) u hu E
  rwa [World.size_alloc] at this
set_option maxHeartbeats 8000000 in
set_option maxRecDepth 100000 in
theorem exprBytes_c (l : List Vl) (hn : ∀ x ∈ l, inW x) (v : Value) (w : World) (hl : Rw w [] v l) : Calls Try.prog 7 #[v] w fun e w' => ∃ v', e = .returned v' ∧ OwnB w' w.heap.size v' (exprB l) ∧ Ext w w' := by
  have h1 := hide (form_c l v w hl)
  by_cases hz : formE l = 0
  · obtain ⟨l64, hgood⟩ : l.length ≤ 64 ∧ Hid (∀ x ∈ l, okW x = true) := by
      obtain ⟨t, tg, et, l64⟩ := formE_tree hz
      exact ⟨l64, form_ok hz⟩
    have e : exprB l = UInt8.ofNat l.length :: wordsB l := by unfold exprB; rw [if_pos hz]
    rw [hz] at h1
    obtain ⟨A, cap, rfl, hlc, hlm, hat⟩ := rw_form hl
    clear hl hlm
    replace hat := hide hat
    obtain ⟨R, hR⟩ : ∃ R, R = exprB l := ⟨_, rfl⟩
    rw [← hR]
    rw [e] at hR
    replace hR := hide hR
    have hm8 : (l.length : Int) % 256 = l.length := by omega
    have hlit := hide (fun (g : GW w) => lenX_lit l64 w.heap.size g.val (GW.size g))
    replace hn := hide hn
    clear e hz
    go_enter Try.func7, Try.ntmps7
    go_wp2_with (go_at_call 11; (with_reducible refine seq_gw h1.out ?_); intro g)
    have hli := hlit.out g
    clear hlit h1 hm8
    go_loopg [3, 15] l.length (fun gh vv i wr => ∃ (k : Nat) (acc : List UInt8), i = .int .i64 k ∧ k + gh = l.length ∧ OwnB wr w.heap.size vv acc ∧ acc.length ≤ 1 + 76 * k ∧ Hid (acc = UInt8.ofNat l.length :: wordsB (l.take k)) ∧ Ext w wr)
    case atStart => exact ⟨0, [UInt8.ofNat l.length], rfl, by omega, hli, by simp, (by show _ = _; simp [wordsB]), g.grown.alloc _⟩
    case round =>
      obtain ⟨k, acc, rfl, hk, ho, hak, hacc, hX⟩ := hrel
      clear hli
      have hzX := hX.size
      by_cases hlt : k < l.length
      · obtain ⟨x, hx⟩ : ∃ x, l[k]? = some x := ⟨_, List.getElem?_eq_getElem hlt⟩
        obtain ⟨b, o, rfl, -, hb', c0, c1, c2⟩ := hat.out k x hx
        have k0 := cell_later hX c0
        have k1 := cell_later hX c1
        have k2 := cell_later hX c2
        have hbr : b < wr.heap.size := block_lt_of_cell k0
        haveI : In b wr := ⟨hbr⟩
        have hxn := hn.out x (List.mem_of_getElem? hx)
        have hxo := hgood.out x (List.mem_of_getElem? hx)
        have hal := argB_len hxo hxn
        have hnx := show acc ++ wordB x = UInt8.ofNat l.length :: wordsB (l.take (k + 1)) by rw [List.take_add_one, hx, hacc.out, Option.toList_some, wordsB_snoc]; rfl
        obtain ⟨hc1, hc20⟩ := ok_code hxo
        obtain ⟨xc, xn, xs⟩ := x
        simp only at hc1 hc20 k0 k1 k2 c0 c1 c2
        clear hx hacc hat
        obtain ⟨c, rfl⟩ := Int.eq_ofNat_of_zero_le (show 0 ≤ xc by omega)
        have hwb : wordB ((c : Int), xn, xs) = UInt8.ofNat c :: argB ((c : Int), xn, xs) := rfl
        rw [hwb, show acc ++ UInt8.ofNat c :: argB ((c : Int), xn, xs) = acc ++ [UInt8.ofNat c] ++ argB ((c : Int), xn, xs) by simp] at hnx
        have hcm : ((c : Nat) : Int) % 256 = c := by omega
        have hXo := hide (show Ext wr (wr.alloc (.cells #[.int .i64 (c : Int), .int .i64 xn, .string xs] 57)) from (Ext.refl wr).alloc _)
        have hXr := hide (hX.trans hXo.out)
        have hOb := hide (Ob.new wr 57 [.int .i64 (c : Int), .int .i64 xn, .string xs])
        have hnb : Hid (∀ k, u3.ownBlock = some k → k < wr.heap.size) := fun k hk => (ho.lt k hk).2
        by_cases d1 : c = 1
        · subst d1
          have ha : argB (((1 : Nat) : Int), xn, xs) = intB xn := rfl
          rw [ha] at hnx hal
          have hcl := hide (fun w => int_c xn hxn w)
          replace hnx := hide hnx
          generalize intB xn = B at *
          clear ha hxo hwb hcm hc1 hc20
          go_wp2_with (first | (at_builtin; (refine wpl_app tBytes rfl (.tmp 19) (.tmp 23) rfl rfl (own_ext ho (hXo.out.alloc _)) rfl (src_cell1b Try.underlying24 wr _ _ rfl _) (by unfold maxLen; omega) (by omega) (by simp only [World.size_alloc]; omega) ?_; intro v2 w2 ho2 hg2 _; have ho2 := own_app8 (n := 1) (by omega) ho2; have hX2 := hide (ext_grown (hXr.out.alloc (.cells #[.int .u8 1] 5)) hg2 (fun k hk => (ho.lt k hk).1)); have hz2 := hX2.out.size; have ob2 := (hOb.out.alloc (.cells #[.int .u8 1] 5)).grown hg2 (by intro e; have := hnb.out _ e.symm; omega); have j0 := ob2.cell 0 rfl; have j1 := ob2.cell 1 rfl; have j2 := ob2.cell 2 rfl; haveI : In wr.heap.size w2 := ⟨ob2.lt⟩; clear hXo)) | (go_at_call 24; refine (hcl.out _).mono ?_; rintro ee w3 ⟨v3, rfl, ho3, hx3⟩; have hz3 := hx3.size) | (at_builtin; (refine wpl_app tBytes rfl (.tmp 29) (.tmp 32) rfl rfl (own_ext ho2 hx3) rfl (src_sl Try.underlying24 (Sl.own (S := []) ho3 (by simp)) (bs_one _) (by omega)) (by unfold maxLen; simp only [List.length_append, List.length_cons, List.length_nil]; omega) (by simp only [List.length_append, List.length_cons, List.length_nil]; omega) (by omega) ?_; intro v4 w4 ho4 hg4 _; replace ho4 := own_app ho4)))
          go_roundg (l.length - (k + 1))
          case measure => omega
          case rel => exact ⟨k + 1, acc ++ [UInt8.ofNat 1] ++ B, by go_num, by omega, ho4, by simp only [List.length_append, List.length_cons, List.length_nil] at *; omega, hnx, ext_grown (hX2.out.trans hx3) hg4 (fun k hk => (ho2.lt k hk).1)⟩
        by_cases d2 : c = 2
        · subst d2
          have hs : xs.size ≤ 64 := by rw [show (((2 : Nat) : Int), xn, xs) = ((2 : Int), xn, xs) from rfl, okW_2, Bool.and_eq_true, decide_eq_true_iff, decide_eq_true_iff] at hxo; exact hxo.2
          have ha : argB (((2 : Nat) : Int), xn, xs) = textB xs.data.toList := rfl
          rw [ha] at hnx hal
          have hcl := hide (fun w => text_c xs (by omega) w)
          replace hnx := hide hnx
          generalize textB xs.data.toList = B at *
          clear ha hxo hwb hcm hc1 hc20 d1
          go_wp2_with (first | (at_builtin; (refine wpl_app tBytes rfl (.tmp 19) (.tmp 23) rfl rfl (own_ext ho (hXo.out.alloc _)) rfl (src_cell1b Try.underlying24 wr _ _ rfl _) (by unfold maxLen; omega) (by omega) (by simp only [World.size_alloc]; omega) ?_; intro v2 w2 ho2 hg2 _; have ho2 := own_app8 (n := 2) (by omega) ho2; have hX2 := hide (ext_grown (hXr.out.alloc (.cells #[.int .u8 2] 5)) hg2 (fun k hk => (ho.lt k hk).1)); have hz2 := hX2.out.size; have ob2 := (hOb.out.alloc (.cells #[.int .u8 2] 5)).grown hg2 (by intro e; have := hnb.out _ e.symm; omega); have j0 := ob2.cell 0 rfl; have j1 := ob2.cell 1 rfl; have j2 := ob2.cell 2 rfl; haveI : In wr.heap.size w2 := ⟨ob2.lt⟩; clear hXo)) | (go_at_call 25; refine (hcl.out _).mono ?_; rintro ee w3 ⟨v3, rfl, ho3, hx3⟩; have hz3 := hx3.size) | (at_builtin; (refine wpl_app tBytes rfl (.tmp 36) (.tmp 39) rfl rfl (own_ext ho2 hx3) rfl (src_sl Try.underlying24 (Sl.own (S := []) ho3 (by simp)) (bs_one _) (by omega)) (by unfold maxLen; simp only [List.length_append, List.length_cons, List.length_nil]; omega) (by simp only [List.length_append, List.length_cons, List.length_nil]; omega) (by omega) ?_; intro v4 w4 ho4 hg4 _; replace ho4 := own_app ho4)))
          go_roundg (l.length - (k + 1))
          case measure => omega
          case rel => exact ⟨k + 1, acc ++ [UInt8.ofNat 2] ++ B, by go_num, by omega, ho4, by simp only [List.length_append, List.length_cons, List.length_nil] at *; omega, hnx, ext_grown (hX2.out.trans hx3) hg4 (fun k hk => (ho2.lt k hk).1)⟩
        by_cases d3 : c = 3
        · subst d3
          have hn8 : 0 ≤ xn ∧ xn < 8 := by rw [show (((3 : Nat) : Int), xn, xs) = ((3 : Int), xn, xs) from rfl, okW_3, Bool.and_eq_true, decide_eq_true_iff] at hxo; exact hxo.1
          obtain ⟨n, rfl⟩ := Int.eq_ofNat_of_zero_le hn8.1
          have hnm : ((n : Nat) : Int) % 256 = n := by omega
          have ha : argB (((3 : Nat) : Int), (n : Int), xs) = [UInt8.ofNat n] := rfl
          rw [ha] at hnx hal
          replace hnx := hide hnx
          clear ha hxo hwb hcm hc1 hc20 d1 d2
          go_wp2_with (first | (at_builtin; (refine wpl_app tBytes rfl (.tmp 19) (.tmp 23) rfl rfl (own_ext ho (hXo.out.alloc _)) rfl (src_cell1b Try.underlying24 wr _ _ rfl _) (by unfold maxLen; omega) (by omega) (by simp only [World.size_alloc]; omega) ?_; intro v2 w2 ho2 hg2 _; have ho2 := own_app8 (n := 3) (by omega) ho2; have hX2 := hide (ext_grown (hXr.out.alloc (.cells #[.int .u8 3] 5)) hg2 (fun k hk => (ho.lt k hk).1)); have hz2 := hX2.out.size; have ob2 := (hOb.out.alloc (.cells #[.int .u8 3] 5)).grown hg2 (by intro e; have := hnb.out _ e.symm; omega); have j0 := ob2.cell 0 rfl; have j1 := ob2.cell 1 rfl; have j2 := ob2.cell 2 rfl; haveI : In wr.heap.size w2 := ⟨ob2.lt⟩; clear hXo)) | (at_builtin; (refine wpl_app tBytes rfl (.tmp 43) (.tmp 47) rfl rfl (own_ext ho2 ((Ext.refl w2).alloc _)) rfl (src_cell1 Try.underlying24 w2 _ rfl _) (by unfold maxLen; simp only [List.length_append, List.length_cons, List.length_nil]; omega) (by simp only [List.length_append, List.length_cons, List.length_nil]; omega) (by simp only [World.size_alloc]; omega) ?_; intro v4 w4 ho4 hg4 _)))
          go_roundg (l.length - (k + 1))
          case measure => omega
          case rel => exact ⟨k + 1, acc ++ [UInt8.ofNat 3] ++ [UInt8.ofNat n], by go_num, by omega, own_app8 (by omega) ho4, by simp only [List.length_append, List.length_cons, List.length_nil] at *; omega, hnx, ext_grown (hX2.out.alloc _) hg4 (fun k hk => (ho2.lt k hk).1)⟩
        · have ha : argB ((c : Int), xn, xs) = [] := by unfold argB; rw [if_neg (by simp only; omega), if_neg (by simp only; omega), if_neg (by simp only; omega)]
          rw [ha, List.append_nil] at hnx
          replace hnx := hide hnx
          have e1 : ((c : Int) == 1) = false := by rw [beq_eq_false_iff_ne]; omega
          have e2 : ((c : Int) == 2) = false := by rw [beq_eq_false_iff_ne]; omega
          have e3 : ((c : Int) == 3) = false := by rw [beq_eq_false_iff_ne]; omega
          clear ha hxo hwb d1 d2 d3 hal
          go_wp2_with (first | (at_builtin; (refine wpl_app tBytes rfl (.tmp 19) (.tmp 23) rfl rfl (own_ext ho (hXo.out.alloc _)) rfl (src_cell1b Try.underlying24 wr _ _ rfl _) (by unfold maxLen; omega) (by omega) (by simp only [World.size_alloc]; omega) ?_; intro v2 w2 ho2 hg2 _; have ho2 := own_app8 (n := c) (by omega) ho2; have hX2 := hide (ext_grown (hXr.out.alloc (.cells #[.int .u8 (c : Int)] 5)) hg2 (fun k hk => (ho.lt k hk).1)); have hz2 := hX2.out.size; have ob2 := (hOb.out.alloc (.cells #[.int .u8 (c : Int)] 5)).grown hg2 (by intro e; have := hnb.out _ e.symm; omega); have j0 := ob2.cell 0 rfl; have j1 := ob2.cell 1 rfl; have j2 := ob2.cell 2 rfl; haveI : In wr.heap.size w2 := ⟨ob2.lt⟩; clear hXo)))
          go_roundg (l.length - (k + 1))
          case measure => omega
          case rel => exact ⟨k + 1, acc ++ [UInt8.ofNat c], by go_num, by omega, ho2, by simp only [List.length_append, List.length_cons, List.length_nil] at *; omega, hnx, hX2.out⟩
      · have hk' : k = l.length := by omega
        have hge : (l.length : Int) ≤ k := by omega
        have hac := hacc.out
        rw [List.take_of_length_le (by omega)] at hac
        have hRa := hide (hR.out.trans hac.symm)
        replace hk' := hide hk'
        clear hac
        go_wp2_with fail
        go_returns
        rw [hRa.out]
        exact ⟨_, rfl, ho, hX⟩
  · have e : exprB l = [] := by unfold exprB; rw [if_neg hz]
    rw [e]
    have hzI : (formE l != 0) = true := by simpa using hz
    obtain ⟨A, cap, rfl, -, -, -⟩ := rw_form hl
    generalize formE l = E at *
    clear e hl hz
    go_enter Try.func7, Try.ntmps7
    go_wp2_with (go_at_call 11; (with_reducible refine seq_gw h1.out ?_); intro g)
    go_returns
    exact ⟨_, rfl, World.ownsRow_nil _ _ _ _, g.grown⟩
set_option maxHeartbeats 8000000 in
set_option maxRecDepth 100000 in
theorem refExprBytes_c (l : List Vl) (hn : ∀ x ∈ l, inW x) (v : Value) (w : World) (hl : Rw w [] v l) : Calls Try.prog 8 #[v] w fun e w' => ∃ v', e = .returned v' ∧ OwnB w' w.heap.size v' (exprB l) ∧ Ext w w' := by
  have h1 := hide (refForm_c l v w hl)
  by_cases hz : formE l = 0
  · obtain ⟨l64, hgood⟩ : l.length ≤ 64 ∧ Hid (∀ x ∈ l, okW x = true) := by
      obtain ⟨t, tg, et, l64⟩ := formE_tree hz
      exact ⟨l64, form_ok hz⟩
    have e : exprB l = UInt8.ofNat l.length :: wordsB l := by unfold exprB; rw [if_pos hz]
    rw [hz] at h1
    obtain ⟨A, cap, rfl, hlc, hlm, hat⟩ := rw_form hl
    clear hl hlm
    replace hat := hide hat
    obtain ⟨R, hR⟩ : ∃ R, R = exprB l := ⟨_, rfl⟩
    rw [← hR]
    rw [e] at hR
    replace hR := hide hR
    have hm8 : (l.length : Int) % 256 = l.length := by omega
    have hlit := hide (fun (g : GW w) => lenX_lit l64 w.heap.size g.val (GW.size g))
    replace hn := hide hn
    clear e hz
    go_enter Try.func8, Try.ntmps8
    go_wp2_with (go_at_call 26; (with_reducible refine seq_gw h1.out ?_); intro g)
    have hli := hlit.out g
    clear hlit h1 hm8
    go_loopg [3, 4] l.length (fun gh vv i wr => ∃ (k : Nat) (acc : List UInt8), i = .int .i64 k ∧ k + gh = l.length ∧ OwnB wr w.heap.size vv acc ∧ acc.length ≤ 1 + 76 * k ∧ Hid (acc = UInt8.ofNat l.length :: wordsB (l.take k)) ∧ Ext w wr)
    case atStart => exact ⟨0, [UInt8.ofNat l.length], rfl, by omega, hli, by simp, (by show _ = _; simp [wordsB]), g.grown.alloc _⟩
    case round =>
      obtain ⟨k, acc, rfl, hk, ho, hak, hacc, hX⟩ := hrel
      clear hli
      have hzX := hX.size
      by_cases hlt : k < l.length
      · obtain ⟨x, hx⟩ : ∃ x, l[k]? = some x := ⟨_, List.getElem?_eq_getElem hlt⟩
        obtain ⟨b, o, rfl, -, hb', c0, c1, c2⟩ := hat.out k x hx
        have k0 := cell_later hX c0
        have k1 := cell_later hX c1
        have k2 := cell_later hX c2
        have hbr : b < wr.heap.size := block_lt_of_cell k0
        haveI : In b wr := ⟨hbr⟩
        have hxn := hn.out x (List.mem_of_getElem? hx)
        have hxo := hgood.out x (List.mem_of_getElem? hx)
        have hal := argB_len hxo hxn
        have hnx := show acc ++ wordB x = UInt8.ofNat l.length :: wordsB (l.take (k + 1)) by rw [List.take_add_one, hx, hacc.out, Option.toList_some, wordsB_snoc]; rfl
        obtain ⟨hc1, hc20⟩ := ok_code hxo
        obtain ⟨xc, xn, xs⟩ := x
        simp only at hc1 hc20 k0 k1 k2 c0 c1 c2
        clear hx hacc hat
        obtain ⟨c, rfl⟩ := Int.eq_ofNat_of_zero_le (show 0 ≤ xc by omega)
        have hwb : wordB ((c : Int), xn, xs) = UInt8.ofNat c :: argB ((c : Int), xn, xs) := rfl
        rw [hwb, show acc ++ UInt8.ofNat c :: argB ((c : Int), xn, xs) = acc ++ [UInt8.ofNat c] ++ argB ((c : Int), xn, xs) by simp] at hnx
        have hcm : ((c : Nat) : Int) % 256 = c := by omega
        have hXo := hide (show Ext wr (wr) from Ext.refl wr)
        have hXr := hide (hX.trans hXo.out)
        have hnb := hide (fun k hk => (ho.lt k hk).1)
        by_cases d1 : c = 1
        · subst d1
          have ha : argB (((1 : Nat) : Int), xn, xs) = intB xn := rfl
          rw [ha] at hnx hal
          have hcl := hide (fun w => refInt_c xn hxn w)
          replace hnx := hide hnx
          generalize intB xn = B at *
          clear ha hxo hwb hcm hc1 hc20
          go_wp2_with (first | (at_builtin; (refine wpl_app tBytes rfl (.tmp 18) (.tmp 25) rfl rfl (own_ext ho (hXo.out.alloc _)) rfl (src_cell1 Try.underlying24 wr _ rfl _) (by unfold maxLen; omega) (by omega) (by simp only [World.size_alloc]; omega) ?_; intro v2 w2 ho2 hg2 _; have ho2 := own_app8 (n := 1) (by omega) ho2; have hX2 := hide (ext_grown (hXr.out.alloc (.cells #[.int .u8 1] 5)) hg2 (fun k hk => (ho.lt k hk).1)); have hz2 := hX2.out.size; have hbr2 : b < w2.heap.size := block_lt_of_cell (cell_later hX2.out c0); haveI : In b w2 := ⟨hbr2⟩; have j0 := cell_later hX2.out c0; have j1 := cell_later hX2.out c1; have j2 := cell_later hX2.out c2; clear hXo)) | (go_at_call 27; refine (hcl.out _).mono ?_; rintro ee w3 ⟨v3, rfl, ho3, hx3⟩; have hz3 := hx3.size) | (at_builtin; (refine wpl_app tBytes rfl (.tmp 33) (.tmp 39) rfl rfl (own_ext ho2 hx3) rfl (src_sl Try.underlying24 (Sl.own (S := []) ho3 (by simp)) (bs_one _) (by omega)) (by unfold maxLen; simp only [List.length_append, List.length_cons, List.length_nil]; omega) (by simp only [List.length_append, List.length_cons, List.length_nil]; omega) (by omega) ?_; intro v4 w4 ho4 hg4 _; replace ho4 := own_app ho4; have hX4 := hide (ext_grown (hX2.out.trans hx3) hg4 (fun k hk => (ho2.lt k hk).1)); have m0 := cell_later hX4.out c0; have m1 := cell_later hX4.out c1; have m2 := cell_later hX4.out c2; have hbr4 : b < w4.heap.size := block_lt_of_cell m0; haveI : In b w4 := ⟨hbr4⟩)))
          go_roundg (l.length - (k + 1))
          case measure => omega
          case rel => exact ⟨k + 1, acc ++ [UInt8.ofNat 1] ++ B, by go_num, by omega, ho4, by simp only [List.length_append, List.length_cons, List.length_nil] at *; omega, hnx, ext_grown (hX2.out.trans hx3) hg4 (fun k hk => (ho2.lt k hk).1)⟩
        by_cases d2 : c = 2
        · subst d2
          have hs : xs.size ≤ 64 := by rw [show (((2 : Nat) : Int), xn, xs) = ((2 : Int), xn, xs) from rfl, okW_2, Bool.and_eq_true, decide_eq_true_iff, decide_eq_true_iff] at hxo; exact hxo.2
          have ha : argB (((2 : Nat) : Int), xn, xs) = textB xs.data.toList := rfl
          rw [ha] at hnx hal
          have hcl := hide (fun w => refText_c xs (by omega) w)
          replace hnx := hide hnx
          generalize textB xs.data.toList = B at *
          clear ha hxo hwb hcm hc1 hc20 d1
          go_wp2_with (first | (at_builtin; (refine wpl_app tBytes rfl (.tmp 18) (.tmp 25) rfl rfl (own_ext ho (hXo.out.alloc _)) rfl (src_cell1 Try.underlying24 wr _ rfl _) (by unfold maxLen; omega) (by omega) (by simp only [World.size_alloc]; omega) ?_; intro v2 w2 ho2 hg2 _; have ho2 := own_app8 (n := 2) (by omega) ho2; have hX2 := hide (ext_grown (hXr.out.alloc (.cells #[.int .u8 2] 5)) hg2 (fun k hk => (ho.lt k hk).1)); have hz2 := hX2.out.size; have hbr2 : b < w2.heap.size := block_lt_of_cell (cell_later hX2.out c0); haveI : In b w2 := ⟨hbr2⟩; have j0 := cell_later hX2.out c0; have j1 := cell_later hX2.out c1; have j2 := cell_later hX2.out c2; clear hXo)) | (go_at_call 28; refine (hcl.out _).mono ?_; rintro ee w3 ⟨v3, rfl, ho3, hx3⟩; have hz3 := hx3.size) | (at_builtin; (refine wpl_app tBytes rfl (.tmp 47) (.tmp 53) rfl rfl (own_ext ho2 hx3) rfl (src_sl Try.underlying24 (Sl.own (S := []) ho3 (by simp)) (bs_one _) (by omega)) (by unfold maxLen; simp only [List.length_append, List.length_cons, List.length_nil]; omega) (by simp only [List.length_append, List.length_cons, List.length_nil]; omega) (by omega) ?_; intro v4 w4 ho4 hg4 _; replace ho4 := own_app ho4; have hX4 := hide (ext_grown (hX2.out.trans hx3) hg4 (fun k hk => (ho2.lt k hk).1)); have m0 := cell_later hX4.out c0; have m1 := cell_later hX4.out c1; have m2 := cell_later hX4.out c2; have hbr4 : b < w4.heap.size := block_lt_of_cell m0; haveI : In b w4 := ⟨hbr4⟩)))
          go_roundg (l.length - (k + 1))
          case measure => omega
          case rel => exact ⟨k + 1, acc ++ [UInt8.ofNat 2] ++ B, by go_num, by omega, ho4, by simp only [List.length_append, List.length_cons, List.length_nil] at *; omega, hnx, ext_grown (hX2.out.trans hx3) hg4 (fun k hk => (ho2.lt k hk).1)⟩
        by_cases d3 : c = 3
        · subst d3
          have hn8 : 0 ≤ xn ∧ xn < 8 := by rw [show (((3 : Nat) : Int), xn, xs) = ((3 : Int), xn, xs) from rfl, okW_3, Bool.and_eq_true, decide_eq_true_iff] at hxo; exact hxo.1
          obtain ⟨n, rfl⟩ := Int.eq_ofNat_of_zero_le hn8.1
          have hnm : ((n : Nat) : Int) % 256 = n := by omega
          have ha : argB (((3 : Nat) : Int), (n : Int), xs) = [UInt8.ofNat n] := rfl
          rw [ha] at hnx hal
          replace hnx := hide hnx
          clear ha hxo hwb hcm hc1 hc20 d1 d2
          go_wp2_with (first | (at_builtin; (refine wpl_app tBytes rfl (.tmp 18) (.tmp 25) rfl rfl (own_ext ho (hXo.out.alloc _)) rfl (src_cell1 Try.underlying24 wr _ rfl _) (by unfold maxLen; omega) (by omega) (by simp only [World.size_alloc]; omega) ?_; intro v2 w2 ho2 hg2 _; have ho2 := own_app8 (n := 3) (by omega) ho2; have hX2 := hide (ext_grown (hXr.out.alloc (.cells #[.int .u8 3] 5)) hg2 (fun k hk => (ho.lt k hk).1)); have hz2 := hX2.out.size; have hbr2 : b < w2.heap.size := block_lt_of_cell (cell_later hX2.out c0); haveI : In b w2 := ⟨hbr2⟩; have j0 := cell_later hX2.out c0; have j1 := cell_later hX2.out c1; have j2 := cell_later hX2.out c2; clear hXo)) | (at_builtin; (refine wpl_app tBytes rfl (.tmp 61) (.tmp 68) rfl rfl (own_ext ho2 ((Ext.refl w2).alloc _)) rfl (src_cell1 Try.underlying24 w2 _ rfl _) (by unfold maxLen; simp only [List.length_append, List.length_cons, List.length_nil]; omega) (by simp only [List.length_append, List.length_cons, List.length_nil]; omega) (by simp only [World.size_alloc]; omega) ?_; intro v4 w4 ho4 hg4 _)))
          go_roundg (l.length - (k + 1))
          case measure => omega
          case rel => exact ⟨k + 1, acc ++ [UInt8.ofNat 3] ++ [UInt8.ofNat n], by go_num, by omega, own_app8 (by omega) ho4, by simp only [List.length_append, List.length_cons, List.length_nil] at *; omega, hnx, ext_grown (hX2.out.alloc _) hg4 (fun k hk => (ho2.lt k hk).1)⟩
        · have ha : argB ((c : Int), xn, xs) = [] := by unfold argB; rw [if_neg (by simp only; omega), if_neg (by simp only; omega), if_neg (by simp only; omega)]
          rw [ha, List.append_nil] at hnx
          replace hnx := hide hnx
          have e1 : ((c : Int) == 1) = false := by rw [beq_eq_false_iff_ne]; omega
          have e2 : ((c : Int) == 2) = false := by rw [beq_eq_false_iff_ne]; omega
          have e3 : ((c : Int) == 3) = false := by rw [beq_eq_false_iff_ne]; omega
          clear ha hxo hwb d1 d2 d3 hal
          go_wp2_with (first | (at_builtin; (refine wpl_app tBytes rfl (.tmp 18) (.tmp 25) rfl rfl (own_ext ho (hXo.out.alloc _)) rfl (src_cell1 Try.underlying24 wr _ rfl _) (by unfold maxLen; omega) (by omega) (by simp only [World.size_alloc]; omega) ?_; intro v2 w2 ho2 hg2 _; have ho2 := own_app8 (n := c) (by omega) ho2; have hX2 := hide (ext_grown (hXr.out.alloc (.cells #[.int .u8 (c : Int)] 5)) hg2 (fun k hk => (ho.lt k hk).1)); have hz2 := hX2.out.size; have hbr2 : b < w2.heap.size := block_lt_of_cell (cell_later hX2.out c0); haveI : In b w2 := ⟨hbr2⟩; have j0 := cell_later hX2.out c0; have j1 := cell_later hX2.out c1; have j2 := cell_later hX2.out c2; clear hXo)))
          go_roundg (l.length - (k + 1))
          case measure => omega
          case rel => exact ⟨k + 1, acc ++ [UInt8.ofNat c], by go_num, by omega, ho2, by simp only [List.length_append, List.length_cons, List.length_nil] at *; omega, hnx, hX2.out⟩
      · have hk' : k = l.length := by omega
        have hge : (l.length : Int) ≤ k := by omega
        have hac := hacc.out
        rw [List.take_of_length_le (by omega)] at hac
        have hRa := hide (hR.out.trans hac.symm)
        replace hk' := hide hk'
        clear hac
        go_wp2_with fail
        go_returns
        rw [hRa.out]
        exact ⟨_, rfl, ho, hX⟩
  · have e : exprB l = [] := by unfold exprB; rw [if_neg hz]
    rw [e]
    have hzI : (formE l != 0) = true := by simpa using hz
    obtain ⟨A, cap, rfl, -, -, -⟩ := rw_form hl
    generalize formE l = E at *
    clear e hl hz
    go_enter Try.func8, Try.ntmps8
    go_wp2_with (go_at_call 26; (with_reducible refine seq_gw h1.out ?_); intro g)
    go_returns
    exact ⟨_, rfl, World.ownsRow_nil _ _ _ _, g.grown⟩
end Go.Proofs.Ytopgapbipmblbaa
