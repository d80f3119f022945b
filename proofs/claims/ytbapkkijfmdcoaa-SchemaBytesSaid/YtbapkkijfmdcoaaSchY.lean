/-
  A helper of ours: no claim of its own. Layer 7 (schema): a schema's bytes, on both sides.
-/
import Derived.Test.YtbapkkijfmdcoaaSchH
import Derived.Test.YtbapkkijfmdcoaaSchK
import Derived.Test.YtbapkkijfmdcoaaRdA
set_option linter.unusedVariables false
set_option linter.unusedSimpArgs false
namespace Go.Proofs.Ytbapkkijfmdcoaa
open Go.RowKit
attribute [local go_sem] GW.cell GW.frozen In.eq_true In.le_true In.ne In.ne' In.ne_add In.ne_add' In.lt_add Upto.le_true Upto.le_add Upto.lt_add
theorem oneB_lit {n : Nat} (h : n ≤ 8) (B : Nat) (w : World) (hB : B ≤ w.heap.size) : OwnB (w.alloc (.cells #[.int .u8 (n : Int)] 5)) B (.slice (some ⟨w.heap.size, 0, none⟩) 1 1) [UInt8.ofNat n] := by
  have h1 := World.ownsRow_lit (base := B) (e := 5) (size := 1) w #[.int .u8 (n : Int)] 1 hB (by decide) rfl
  have e : bs [UInt8.ofNat n] = [.int .u8 (n : Int)] := by
    simp only [bs, List.map_cons, List.map_nil]
    have : (UInt8.ofNat n).toNat = n := by simp; omega
    rw [this]
  unfold OwnB
  rw [e]
  exact h1
set_option maxHeartbeats 4000000 in
set_option maxRecDepth 100000 in
theorem schBytes_c (l : List Cl) (v : Value) (w : World) (hl : Cw w [] v l) : Calls Try.prog 28 #[v] w fun e w' => ∃ v', e = .returned v' ∧ OwnB w' w.heap.size v' (schB l) ∧ Ext w w' := by
  have h1 := hide (fun w' (hX : Ext w w') => mayS_c l v w' (Sl.ext hl hX))
  have hX0 := hide (Ext.refl w)
  obtain ⟨A, cap, rfl, hlc, hlm, hat⟩ := cw_form hl
  unfold maxLen at hlm
  replace hat := hide hat
  clear hl
  cases ha : mayS l
  · have e : schB l = [] := by unfold schB; rw [ha, if_neg (by decide)]
    rw [e]
    rw [ha] at h1
    clear ha e
    go_enter Try.func28, Try.ntmps28
    go_wp2_with (go_at_call 12; (with_reducible refine seq_gw (h1.out _ hX0.out) ?_); intro g)
    go_returns
    exact ⟨_, rfl, World.ownsRow_nil _ _ _ _, g.grown⟩
  · obtain ⟨l8, hn, -⟩ := mayS_iff.1 ha
    have e : schB l = UInt8.ofNat l.length :: colsB l := by unfold schB; rw [if_pos ha]
    rw [ha] at h1
    obtain ⟨R, hR⟩ : ∃ R, R = schB l := ⟨_, rfl⟩
    rw [← hR]
    rw [e] at hR
    replace hR := hide hR
    have hm8 : (l.length : Int) % 256 = l.length := by omega
    have hlit := hide (fun (g : GW w) => oneB_lit l8.2 w.heap.size g.val (GW.size g))
    replace hn := hide hn
    clear ha e
    go_enter Try.func28, Try.ntmps28
    go_wp2_with (go_at_call 12; (with_reducible refine seq_gw (h1.out _ hX0.out) ?_); intro g)
    have hli := hlit.out g
    clear hlit h1 hX0 hm8
    go_loopg [3, 15] l.length (fun gh vv i wr => ∃ (k : Nat) (acc : List UInt8), i = .int .i64 k ∧ k + gh = l.length ∧ OwnB wr w.heap.size vv acc ∧ acc.length ≤ 1 + 18 * k ∧ Hid (acc = UInt8.ofNat l.length :: colsB (l.take k)) ∧ Ext w wr)
    case atStart => exact ⟨0, [UInt8.ofNat l.length], rfl, by omega, hli, by simp, (by show _ = _; simp [colsB]), g.grown.alloc _⟩
    case round =>
      obtain ⟨k, acc, rfl, hk, ho, hak, hacc, hX⟩ := hrel
      clear hli
      have hzX := hX.size
      by_cases hlt : k < l.length
      · obtain ⟨x, hx⟩ : ∃ x, l[k]? = some x := ⟨_, List.getElem?_eq_getElem hlt⟩
        obtain ⟨b, o, rfl, -, hb', c0, c1⟩ := hat.out k x hx
        have k0 := cell_later hX c0
        have k1 := cell_later hX c1
        have hbr : b < wr.heap.size := block_lt_of_cell k0
        have hxn := hn.out x (List.mem_of_getElem? hx)
        have hVl := colB_len hxn
        have hnx := hide (show acc ++ colB x = UInt8.ofNat l.length :: colsB (l.take (k + 1)) by rw [List.take_add_one, hx, hacc.out, Option.toList_some, colsB_snoc]; rfl)
        obtain ⟨hxs, hxk⟩ := okC_in hxn
        obtain ⟨xn, xk⟩ := x
        obtain ⟨m, rfl, hm2⟩ : ∃ m : Nat, xk = (m : Int) ∧ m ≤ 2 := ⟨xk.toNat, by simp only at hxk; omega, by simp only at hxk; omega⟩
        simp only at hxs k0 k1
        have hvb := hide (fun w => text_c xn (by omega) w)
        unfold colB at hnx hVl
        simp only [List.length_append, List.length_singleton, Int.toNat_natCast] at hnx hVl
        obtain ⟨B, hB⟩ : ∃ B, B = textB xn.data.toList := ⟨_, rfl⟩
        rw [← hB] at hVl hvb hnx
        have hm256 : (m : Int) % 256 = m := by omega
        replace hB := hide hB
        have hc1 := hide c1
        have hobg := ob_ge ho
        have O0 := hide (Ob.new wr 34 [.string xn, .int .i64 (m : Int)])
        have hbw : b < w.heap.size := hb'
        clear hx c0 c1 hacc hxn hxk hxs
        go_wp2_with (first | (go_at_call 53; refine (hvb.out _).mono ?_; rintro ee w1 ⟨v1, rfl, ho1, hx1⟩; have hz1 := hx1.size) | (at_builtin; first
          | (refine wpl_app tBytes rfl (.tmp 19) (.tmp 22) rfl rfl (own_ext ho (((Ext.refl wr).alloc _).trans hx1)) rfl (src_sl Try.underlying47 (Sl.own (S := []) ho1 (by simp)) (bs_one _) (by omega)) (by unfold maxLen; omega) (by omega) (by simp only [World.size_alloc] at hz1; omega) ?_; intro v2 w2 ho2 hg2 _; replace ho2 := own_app ho2; have hE2 := hide (ext_grown (hX.trans (((Ext.refl wr).alloc _).trans hx1)) hg2 (fun k hk => (ho.lt k hk).1)); have hz2 := hE2.out.size; have hl2 := hide (oneB_lit (show m ≤ 8 by omega) w2.heap.size w2 (Nat.le_refl _)); have O2 := (O0.out.ext hx1).fr (fr_grown hg2) (fun m => by have := (hobg _ m).2; omega); have k2 := O2.cell 1 rfl; have hlt2 := O2.lt; haveI : In wr.heap.size w2 := ⟨hlt2⟩)
          | (refine wpl_app tBytes rfl (.tmp 24) (.tmp 28) rfl rfl (own_ext ho2 ((Ext.refl w2).alloc _)) rfl (src_sl Try.underlying47 (Sl.own (S := []) hl2.out (by simp)) (bs_one _) (by omega)) (by unfold maxLen; simp only [List.length_append, List.length_singleton]; omega) (by first | omega | (simp only [List.length_append, List.length_singleton]; omega)) (by simp only [World.size_alloc]; omega) ?_; intro v3 w3 ho3 hg3 _; replace ho3 := own_app ho3)))
        go_roundg (l.length - (k + 1))
        case measure => omega
        case rel => exact ⟨k + 1, acc ++ B ++ [UInt8.ofNat m], by go_num, by omega, ho3, by simp only [List.length_append, List.length_singleton]; omega, by rw [List.append_assoc]; exact hnx, ext_grown (hE2.out.alloc _) hg3 (fun k hk => (ho2.lt k hk).1)⟩
      · have hk' : k = l.length := by omega
        have hge : (l.length : Int) ≤ k := by omega
        have hac := hacc.out
        rw [List.take_of_length_le (by omega)] at hac
        have hRa := hide (hR.out.trans hac.symm)
        replace hk' := hide hk'
        clear hac
        go_wp2_with fail
        go_returns
        rw [hRa.out]
        exact ⟨_, rfl, ho, hX⟩
set_option maxHeartbeats 4000000 in
set_option maxRecDepth 100000 in
theorem refSchBytes_c (l : List Cl) (v : Value) (w : World) (hl : Cw w [] v l) : Calls Try.prog 29 #[v] w fun e w' => ∃ v', e = .returned v' ∧ OwnB w' w.heap.size v' (schB l) ∧ Ext w w' := by
  have h1 := hide (fun w' (hX : Ext w w') => refMayS_c l v w' (Sl.ext hl hX))
  have hX0 := hide (Ext.refl w)
  obtain ⟨A, cap, rfl, hlc, hlm, hat⟩ := cw_form hl
  unfold maxLen at hlm
  replace hat := hide hat
  clear hl
  cases ha : mayS l
  · have e : schB l = [] := by unfold schB; rw [ha, if_neg (by decide)]
    rw [e]
    rw [ha] at h1
    clear ha e
    go_enter Try.func29, Try.ntmps29
    go_wp2_with (go_at_call 13; (with_reducible refine seq_gw (h1.out _ hX0.out) ?_); intro g)
    go_returns
    exact ⟨_, rfl, World.ownsRow_nil _ _ _ _, g.grown⟩
  · obtain ⟨l8, hn, -⟩ := mayS_iff.1 ha
    have e : schB l = UInt8.ofNat l.length :: colsB l := by unfold schB; rw [if_pos ha]
    rw [ha] at h1
    obtain ⟨R, hR⟩ : ∃ R, R = schB l := ⟨_, rfl⟩
    rw [← hR]
    rw [e] at hR
    replace hR := hide hR
    have hm8 : (l.length : Int) % 256 = l.length := by omega
    have hlit := hide (fun (g : GW w) => oneB_lit l8.2 w.heap.size g.val (GW.size g))
    replace hn := hide hn
    clear ha e
    go_enter Try.func29, Try.ntmps29
    go_wp2_with (go_at_call 13; (with_reducible refine seq_gw (h1.out _ hX0.out) ?_); intro g)
    have hli := hlit.out g
    clear hlit h1 hX0 hm8
    go_loopg [3, 4] l.length (fun gh vv i wr => ∃ (k : Nat) (acc : List UInt8), i = .int .i64 k ∧ k + gh = l.length ∧ OwnB wr w.heap.size vv acc ∧ acc.length ≤ 1 + 18 * k ∧ Hid (acc = UInt8.ofNat l.length :: colsB (l.take k)) ∧ Ext w wr)
    case atStart => exact ⟨0, [UInt8.ofNat l.length], rfl, by omega, hli, by simp, (by show _ = _; simp [colsB]), g.grown.alloc _⟩
    case round =>
      obtain ⟨k, acc, rfl, hk, ho, hak, hacc, hX⟩ := hrel
      clear hli
      have hzX := hX.size
      by_cases hlt : k < l.length
      · obtain ⟨x, hx⟩ : ∃ x, l[k]? = some x := ⟨_, List.getElem?_eq_getElem hlt⟩
        obtain ⟨b, o, rfl, -, hb', c0, c1⟩ := hat.out k x hx
        have k0 := cell_later hX c0
        have k1 := cell_later hX c1
        have hbr : b < wr.heap.size := block_lt_of_cell k0
        have hxn := hn.out x (List.mem_of_getElem? hx)
        have hVl := colB_len hxn
        have hnx := hide (show acc ++ colB x = UInt8.ofNat l.length :: colsB (l.take (k + 1)) by rw [List.take_add_one, hx, hacc.out, Option.toList_some, colsB_snoc]; rfl)
        obtain ⟨hxs, hxk⟩ := okC_in hxn
        obtain ⟨xn, xk⟩ := x
        obtain ⟨m, rfl, hm2⟩ : ∃ m : Nat, xk = (m : Int) ∧ m ≤ 2 := ⟨xk.toNat, by simp only at hxk; omega, by simp only at hxk; omega⟩
        simp only at hxs k0 k1
        have hvb := hide (fun w => refText_c xn (by omega) w)
        unfold colB at hnx hVl
        simp only [List.length_append, List.length_singleton, Int.toNat_natCast] at hnx hVl
        obtain ⟨B, hB⟩ : ∃ B, B = textB xn.data.toList := ⟨_, rfl⟩
        rw [← hB] at hVl hvb hnx
        have hm256 : (m : Int) % 256 = m := by omega
        replace hB := hide hB
        have hc1 := hide c1
        have hobg := ob_ge ho
        have O0 := hide (Ob.new wr 34 [.string xn, .int .i64 (m : Int)])
        have hbw : b < w.heap.size := hb'
        clear hx c0 c1 hacc hxn hxk hxs
        go_wp2_with (first | (go_at_call 54; refine (hvb.out _).mono ?_; rintro ee w1 ⟨v1, rfl, ho1, hx1⟩; have hz1 := hx1.size) | (at_builtin; first
          | (refine wpl_app tBytes rfl (.tmp 18) (.tmp 24) rfl rfl (own_ext ho hx1) rfl (src_sl Try.underlying47 (Sl.own (S := []) ho1 (by simp)) (bs_one _) (by omega)) (by unfold maxLen; omega) (by omega) (by skip; omega) ?_; intro v2 w2 ho2 hg2 _; replace ho2 := own_app ho2; have hE2 := hide (ext_grown (hX.trans hx1) hg2 (fun k hk => (ho.lt k hk).1)); have hz2 := hE2.out.size; have hl2 := hide (oneB_lit (show m ≤ 8 by omega) w2.heap.size w2 (Nat.le_refl _)); have k2 := cell_later hE2.out hc1.out; have hb2 : b < w2.heap.size := block_lt_of_cell k2)
          | (refine wpl_app tBytes rfl (.tmp 26) (.tmp 33) rfl rfl (own_ext ho2 ((Ext.refl w2).alloc _)) rfl (src_sl Try.underlying47 (Sl.own (S := []) hl2.out (by simp)) (bs_one _) (by omega)) (by unfold maxLen; simp only [List.length_append, List.length_singleton]; omega) (by first | omega | (simp only [List.length_append, List.length_singleton]; omega)) (by simp only [World.size_alloc]; omega) ?_; intro v3 w3 ho3 hg3 _; replace ho3 := own_app ho3)))
        go_roundg (l.length - (k + 1))
        case measure => omega
        case rel => exact ⟨k + 1, acc ++ B ++ [UInt8.ofNat m], by go_num, by omega, ho3, by simp only [List.length_append, List.length_singleton]; omega, by rw [List.append_assoc]; exact hnx, ext_grown (hE2.out.alloc _) hg3 (fun k hk => (ho2.lt k hk).1)⟩
      · have hk' : k = l.length := by omega
        have hge : (l.length : Int) ≤ k := by omega
        have hac := hacc.out
        rw [List.take_of_length_le (by omega)] at hac
        have hRa := hide (hR.out.trans hac.symm)
        replace hk' := hide hk'
        clear hac
        go_wp2_with fail
        go_returns
        rw [hRa.out]
        exact ⟨_, rfl, ho, hX⟩
end Go.Proofs.Ytbapkkijfmdcoaa
