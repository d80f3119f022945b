/-
  A helper of ours: no claim of its own. Layer 6 (row): a row's bytes, and its key.
-/
import Derived.Test.YtpfcmlmljolplaaRowA
import Derived.Test.YtpfcmlmljolplaaRowK
set_option linter.unusedVariables false
set_option linter.unusedSimpArgs false
namespace Go.Proofs.Ytpfcmlmljolplaa
open Go.RowKit
attribute [local go_sem] GW.cell GW.frozen In.eq_true In.le_true In.ne In.ne' In.ne_add In.ne_add' In.lt_add Upto.le_true Upto.le_add Upto.lt_add
theorem lenB_lit {n : Nat} (h : n ≤ 8) (B : Nat) (w : World) (hB : B ≤ w.heap.size) : OwnB (w.alloc (.cells #[.int .u8 (n : Int)] 5)) B (.slice (some ⟨w.heap.size, 0, none⟩) 1 1) [UInt8.ofNat n] := by
  have h1 := World.ownsRow_lit (base := B) (e := 5) (size := 1) w #[.int .u8 (n : Int)] 1 hB (by decide) rfl
  have e : bs [UInt8.ofNat n] = [.int .u8 (n : Int)] := by
    simp only [bs, List.map_cons, List.map_nil]
    have : (UInt8.ofNat n).toNat = n := by simp; omega
    rw [this]
  unfold OwnB
  rw [e]
  exact h1
theorem valB_le (x : Vl) (h : inI x.2.1) : (valB x).length ≤ 75 := valB_len (k := x.1) (n := x.2.1) (s := x.2.2) h
set_option maxHeartbeats 4000000 in
set_option maxRecDepth 100000 in
theorem rowBytes_c (l : List Vl) (hn : ∀ x ∈ l, inI x.2.1) (v : Value) (w : World) (hl : Rw w [] v l) : Calls Try.prog 25 #[v] w fun e w' => ∃ v', e = .returned v' ∧ OwnB w' w.heap.size v' (rowB l) ∧ Ext w w' := by
  have h1 := hide (fun w' (hX : Ext w w') => rowMay_c l v w' (Sl.ext hl hX))
  have hX0 := hide (Ext.refl w)
  obtain ⟨A, cap, rfl, hlc, hlm, hat⟩ := rw_form hl
  unfold maxLen at hlm
  replace hat := hide hat
  clear hl
  cases ha : mayR l
  · have e : rowB l = [] := by unfold rowB; rw [ha, if_neg (by decide)]
    rw [e]
    rw [ha] at h1
    clear ha e
    go_enter Try.func25, Try.ntmps25
    go_wp2_with (go_at_call 15; (with_reducible refine seq_gw (h1.out _ hX0.out) ?_); intro g)
    go_returns
    exact ⟨_, rfl, World.ownsRow_nil _ _ _ _, g.grown⟩
  · have l8 := (mayR_iff.1 ha).1
    have e : rowB l = UInt8.ofNat l.length :: valsB l := by unfold rowB; rw [if_pos ha]
    rw [ha] at h1
    obtain ⟨R, hR⟩ : ∃ R, R = rowB l := ⟨_, rfl⟩
    rw [← hR]
    rw [e] at hR
    replace hR := hide hR
    have hm8 : (l.length : Int) % 256 = l.length := by omega
    have hlit := hide (fun (g : GW w) => lenB_lit l8 w.heap.size g.val (GW.size g))
    replace hn := hide hn
    clear ha e
    go_enter Try.func25, Try.ntmps25
    go_wp2_with (go_at_call 15; (with_reducible refine seq_gw (h1.out _ hX0.out) ?_); intro g)
    have hli := hlit.out g
    clear hlit h1 hX0 hm8
    go_loopg [3, 15] l.length (fun gh vv i wr => ∃ (k : Nat) (acc : List UInt8), i = .int .i64 k ∧ k + gh = l.length ∧ OwnB wr w.heap.size vv acc ∧ acc.length ≤ 1 + 75 * k ∧ Hid (acc = UInt8.ofNat l.length :: valsB (l.take k)) ∧ Ext w wr)
    case atStart => exact ⟨0, [UInt8.ofNat l.length], rfl, by omega, hli, by simp, (by show _ = _; simp [valsB]), g.grown.alloc _⟩
    case round =>
      obtain ⟨k, acc, rfl, hk, ho, hak, hacc, hX⟩ := hrel
      clear hli
      have hzX := hX.size
      by_cases hlt : k < l.length
      · obtain ⟨x, hx⟩ : ∃ x, l[k]? = some x := ⟨_, List.getElem?_eq_getElem hlt⟩
        obtain ⟨b, o, rfl, -, hb', c0, c1, c2⟩ := hat.out k x hx
        have k0 := cell_later hX c0
        have k1 := cell_later hX c1
        have k2 := cell_later hX c2
        have hbr : b < wr.heap.size := block_lt_of_cell k0
        have hxn := hn.out x (List.mem_of_getElem? hx)
        have hVl := valB_le x hxn
        have hvb := hide (fun w => vbytes_c x.1 x.2.1 x.2.2 hxn w)
        rw [show (x.1, x.2.1, x.2.2) = x from rfl] at hvb
        have hnx := hide (show acc ++ valB x = UInt8.ofNat l.length :: valsB (l.take (k + 1)) by rw [List.take_add_one, hx, hacc.out, Option.toList_some, valsB_snoc]; rfl)
        obtain ⟨B, hB⟩ : ∃ B, B = valB x := ⟨_, rfl⟩
        rw [← hB] at hVl hvb hnx
        replace hB := hide hB
        obtain ⟨xk, xn, xs⟩ := x
        clear hx c0 c1 c2 hacc hxn
        go_wp2_with (first | (go_at_call 63; refine (hvb.out _).mono ?_; rintro ee w1 ⟨v1, rfl, ho1, hx1⟩; have hz1 := hx1.size) | (at_builtin; (refine wpl_app tBytes rfl (.tmp 19) (.tmp 21) rfl rfl (own_ext ho (((Ext.refl wr).alloc _).trans hx1)) rfl (src_sl Try.underlying40 (Sl.own (S := []) ho1 (by simp)) (bs_one _) (by omega)) (by unfold maxLen; omega) (by omega) (by simp only [World.size_alloc] at hz1; omega) ?_; intro v2 w2 ho2 hg2 _; replace ho2 := own_app ho2)))
        go_roundg (l.length - (k + 1))
        case measure => omega
        case rel => exact ⟨k + 1, acc ++ B, by go_num, by omega, ho2, by rw [List.length_append]; omega, hnx, ext_grown (hX.trans ((((Ext.refl wr).alloc _).trans hx1))) hg2 (fun k hk => (ho.lt k hk).1)⟩
      · have hk' : k = l.length := by omega
        have hge : (l.length : Int) ≤ k := by omega
        have hac := hacc.out
        rw [List.take_of_length_le (by omega)] at hac
        have hRa := hide (hR.out.trans hac.symm)
        replace hk' := hide hk'
        clear hac
        go_wp2_with fail
        go_returns
        rw [hRa.out]
        exact ⟨_, rfl, ho, hX⟩
set_option maxHeartbeats 4000000 in
set_option maxRecDepth 100000 in
theorem refRowBytes_c (l : List Vl) (hn : ∀ x ∈ l, inI x.2.1) (v : Value) (w : World) (hl : Rw w [] v l) : Calls Try.prog 26 #[v] w fun e w' => ∃ v', e = .returned v' ∧ OwnB w' w.heap.size v' (rowB l) ∧ Ext w w' := by
  have h1 := hide (fun w' (hX : Ext w w') => refRowMay_c l v w' (Sl.ext hl hX))
  have hX0 := hide (Ext.refl w)
  obtain ⟨A, cap, rfl, hlc, hlm, hat⟩ := rw_form hl
  unfold maxLen at hlm
  replace hat := hide hat
  clear hl
  cases ha : mayR l
  · have e : rowB l = [] := by unfold rowB; rw [ha, if_neg (by decide)]
    rw [e]
    rw [ha] at h1
    clear ha e
    go_enter Try.func26, Try.ntmps26
    go_wp2_with (go_at_call 16; (with_reducible refine seq_gw (h1.out _ hX0.out) ?_); intro g)
    go_returns
    exact ⟨_, rfl, World.ownsRow_nil _ _ _ _, g.grown⟩
  · have l8 := (mayR_iff.1 ha).1
    have e : rowB l = UInt8.ofNat l.length :: valsB l := by unfold rowB; rw [if_pos ha]
    rw [ha] at h1
    obtain ⟨R, hR⟩ : ∃ R, R = rowB l := ⟨_, rfl⟩
    rw [← hR]
    rw [e] at hR
    replace hR := hide hR
    have hm8 : (l.length : Int) % 256 = l.length := by omega
    have hlit := hide (fun (g : GW w) => lenB_lit l8 w.heap.size g.val (GW.size g))
    replace hn := hide hn
    clear ha e
    go_enter Try.func26, Try.ntmps26
    go_wp2_with (go_at_call 16; (with_reducible refine seq_gw (h1.out _ hX0.out) ?_); intro g)
    have hli := hlit.out g
    clear hlit h1 hX0 hm8
    go_loopg [3, 4] l.length (fun gh vv i wr => ∃ (k : Nat) (acc : List UInt8), i = .int .i64 k ∧ k + gh = l.length ∧ OwnB wr w.heap.size vv acc ∧ acc.length ≤ 1 + 75 * k ∧ Hid (acc = UInt8.ofNat l.length :: valsB (l.take k)) ∧ Ext w wr)
    case atStart => exact ⟨0, [UInt8.ofNat l.length], rfl, by omega, hli, by simp, (by show _ = _; simp [valsB]), g.grown.alloc _⟩
    case round =>
      obtain ⟨k, acc, rfl, hk, ho, hak, hacc, hX⟩ := hrel
      clear hli
      have hzX := hX.size
      by_cases hlt : k < l.length
      · obtain ⟨x, hx⟩ : ∃ x, l[k]? = some x := ⟨_, List.getElem?_eq_getElem hlt⟩
        obtain ⟨b, o, rfl, -, hb', c0, c1, c2⟩ := hat.out k x hx
        have k0 := cell_later hX c0
        have k1 := cell_later hX c1
        have k2 := cell_later hX c2
        have hbr : b < wr.heap.size := block_lt_of_cell k0
        have hxn := hn.out x (List.mem_of_getElem? hx)
        have hVl := valB_le x hxn
        have hvb := hide (fun w => vrefBytes_c x.1 x.2.1 x.2.2 hxn w)
        rw [show (x.1, x.2.1, x.2.2) = x from rfl] at hvb
        have hnx := hide (show acc ++ valB x = UInt8.ofNat l.length :: valsB (l.take (k + 1)) by rw [List.take_add_one, hx, hacc.out, Option.toList_some, valsB_snoc]; rfl)
        obtain ⟨B, hB⟩ : ∃ B, B = valB x := ⟨_, rfl⟩
        rw [← hB] at hVl hvb hnx
        replace hB := hide hB
        obtain ⟨xk, xn, xs⟩ := x
        clear hx c0 c1 c2 hacc hxn
        go_wp2_with (first | (go_at_call 64; refine (hvb.out _).mono ?_; rintro ee w1 ⟨v1, rfl, ho1, hx1⟩; have hz1 := hx1.size) | (at_builtin; (refine wpl_app tBytes rfl (.tmp 18) (.tmp 23) rfl rfl (own_ext ho hx1) rfl (src_sl Try.underlying40 (Sl.own (S := []) ho1 (by simp)) (bs_one _) (by omega)) (by unfold maxLen; omega) (by omega) (by skip; omega) ?_; intro v2 w2 ho2 hg2 _; replace ho2 := own_app ho2)))
        go_roundg (l.length - (k + 1))
        case measure => omega
        case rel => exact ⟨k + 1, acc ++ B, by go_num, by omega, ho2, by rw [List.length_append]; omega, hnx, ext_grown (hX.trans (hx1)) hg2 (fun k hk => (ho.lt k hk).1)⟩
      · have hk' : k = l.length := by omega
        have hge : (l.length : Int) ≤ k := by omega
        have hac := hacc.out
        rw [List.take_of_length_le (by omega)] at hac
        have hRa := hide (hR.out.trans hac.symm)
        replace hk' := hide hk'
        clear hac
        go_wp2_with fail
        go_returns
        rw [hRa.out]
        exact ⟨_, rfl, ho, hX⟩
theorem rowKey_c (l : List Vl) (hn : ∀ x ∈ l, inI x.2.1) (v : Value) (w : World) (hl : Rw w [] v l) : Calls Try.prog 27 #[v] w fun e w' => e = .returned (.string ⟨(rowB l).toArray⟩) ∧ Ext w w' := by
  have hc := hide (rowBytes_c l hn v w hl)
  generalize rowB l = B at *
  clear hl
  go_enter Try.func27, Try.ntmps27
  go_wp2_with (go_at_call 25; refine hc.out.mono ?_; rintro ee w1 ⟨v1, rfl, ho1, hx1⟩; have hcv := run_str (P := Try.prog) Try.underlying40 Try.underlying5 Try.underlying9 (Sl.own (S := []) ho1 (by simp)))
  go_returns
  exact ⟨rfl, hx1⟩
end Go.Proofs.Ytpfcmlmljolplaa
