/-
  A helper of ours: no claim of its own. Layer 12 (bag): whether any edge is late, by the code.
-/
import Derived.Test.YtoghgjgaolinaaaRowA
import Derived.Test.YtoghgjgaolinaaaBinM
import Derived.Test.YtoghgjgaolinaaaRowS
import Derived.Test.YtoghgjgaolinaaaBagE
import Derived.StringKeys

import Derived.Test.YtoghgjgaolinaaaBagD
set_option linter.unusedVariables false
set_option linter.unusedSimpArgs false
namespace Go.Proofs.Ytoghgjgaolinaaa
open Go.RowKit
attribute [local go_sem] GW.cell GW.frozen In.eq_true In.le_true In.ne In.ne' In.ne_add In.ne_add' In.lt_add Upto.le_true Upto.le_add Upto.lt_add
/-- What is wrong with the bytes of a value; what is left behind; what the value is. -/
def rdE : List UInt8 → Int
  | [] => 5
  | c :: r => if c.toNat = 1 then (numSt 10 r 0).2 else if c.toNat = 2 then (textSt 64 r 0).2 else 4
def rdS : List UInt8 → List UInt8 × Int
  | [] => ([], 5)
  | c :: r => if c.toNat = 1 then numSt 10 r 0 else if c.toNat = 2 then textSt 64 r 0 else (r, 0)
def rdV (l : List UInt8) : Vl :=
  if rdE l = 0 then (match l with
    | [] => (0, 0, ⟨#[]⟩)
    | c :: r => if c.toNat = 1 then (1, unz (numVal 10 r 0), ⟨#[]⟩) else (2, 0, ⟨(textVal 64 r 0).toArray⟩))
  else (0, 0, ⟨#[]⟩)
theorem textVal_le (r : List UInt8) : (textVal 64 r 0).length ≤ 64 := by
  unfold textVal
  split
  · rename_i h
    unfold textE at h
    rw [List.length_take]
    split at h
    · rename_i h1; exact absurd h h1
    · split at h
      · cases h
      · omega
  · simp
theorem textSt_err (r : List UInt8) : (textSt 64 r 0).2 = textE 64 r 0 := by
  unfold textSt
  split
  · rename_i h; exact h.symm
  · rw [if_pos rfl]
abbrev zv : List Value := [.int .i64 0, .int .i64 0, .string ⟨#[]⟩]
theorem ob_zero (w : World) : Ob (w.alloc (.cells #[.int .i64 0, .int .i64 0, .string ⟨#[]⟩] 64)) w.heap.size 64 zv := Ob.new w _ zv
theorem fr_set3 {W w : World} {X : List Nat} {B : Nat} (h : Fr X W w) (hB : B ∈ X ∨ W.heap.size ≤ B) (u0 u1 u2 : Value) : Fr X W (((w.setCell ⟨B, 0, none⟩ u0).setCell ⟨B, 1, none⟩ u1).setCell ⟨B, 2, none⟩ u2) :=
  ((h.setCell _ _ hB).setCell _ _ hB).setCell _ _ hB
/-- The next value. -/
def vl (a : Vl) : Value := val a.1 a.2.1 a.2.2
end Go.Proofs.Ytoghgjgaolinaaa
set_option linter.unusedVariables false
set_option linter.unusedSimpArgs false
namespace Go.Proofs.Ytoghgjgaolinaaa
open Go.RowKit
theorem text_back' (l : List UInt8) (hl : l.length ≤ 64) (r : List UInt8) : textVal 64 (textB l ++ r) 0 = l ∧ textSt 64 (textB l ++ r) 0 = (r, 0) := by
  have h := num_back (l.length : Int) (by omega) (by omega) (l ++ r)
  have e : numB (l.length : Int) = grb l.length := by unfold numB; rw [if_neg (by omega)]; simp
  rw [e] at h
  have e2 : textB l ++ r = grb l.length ++ (l ++ r) := by unfold textB; rw [List.append_assoc]
  rw [e2]
  have hv : numVal 9 (grb l.length ++ (l ++ r)) 0 = l.length := by have := h.1; omega
  obtain ⟨h1, h2⟩ := text_ok (most := 64) h.2 (by rw [hv]; omega) (by rw [hv]; simp)
  rw [h1, h2, hv]
  simp
theorem rd_num (r : List UInt8) : rdE (1 :: r) = (numSt 10 r 0).2 ∧ rdS (1 :: r) = numSt 10 r 0 ∧ ((numSt 10 r 0).2 = 0 → rdV (1 :: r) = (1, unz (numVal 10 r 0), ⟨#[]⟩)) := by
  have e : rdE (1 :: r) = (numSt 10 r 0).2 := by simp [rdE]
  refine ⟨e, by simp [rdS], fun h => ?_⟩
  unfold rdV
  rw [e, if_pos h]
  simp
theorem rd_text (r : List UInt8) : rdE (2 :: r) = (textSt 64 r 0).2 ∧ rdS (2 :: r) = textSt 64 r 0 ∧ ((textSt 64 r 0).2 = 0 → rdV (2 :: r) = (2, 0, ⟨(textVal 64 r 0).toArray⟩)) := by
  have e : rdE (2 :: r) = (textSt 64 r 0).2 := by simp [rdE]
  refine ⟨e, by simp [rdS], fun h => ?_⟩
  unfold rdV
  rw [e, if_pos h]
  simp
theorem val_back {k n : Int} {s : ByteArray} (hn : -9223372036854775808 ≤ n ∧ n ≤ 9223372036854775807) (h : mayB k n s = true) (l : List UInt8) : rdE (valB (k, n, s) ++ l) = 0 ∧ rdV (valB (k, n, s) ++ l) = (k, n, s) ∧ rdS (valB (k, n, s) ++ l) = (l, 0) := by
  unfold valB may
  simp only
  rw [h, if_pos rfl]
  rcases may_cases (k := k) (n := n) (s := s) with ⟨rfl, h'⟩ | ⟨rfl, rfl, h'⟩ | ⟨hm, _⟩
  · rw [if_pos rfl, List.cons_append]
    obtain ⟨h1, h2⟩ := int_back n hn l
    obtain ⟨e1, e2, e3⟩ := rd_num (intB n ++ l)
    rw [h2] at e1 e2 e3
    rw [e1, e2, e3 rfl, h1, empty_of h']
    exact ⟨rfl, rfl, rfl⟩
  · rw [if_neg (by decide), List.cons_append]
    obtain ⟨h1, h2⟩ := text_back' s.data.toList (by rw [size_list]; exact h') l
    obtain ⟨e1, e2, e3⟩ := rd_text (textB s.data.toList ++ l)
    rw [h2] at e1 e2 e3
    rw [e1, e2, e3 rfl, h1]
    exact ⟨rfl, rfl, rfl⟩
  · rw [h] at hm; cases hm
theorem valB_len {k n : Int} {s : ByteArray} (hn : -9223372036854775808 ≤ n ∧ n ≤ 9223372036854775807) : (valB (k, n, s)).length ≤ 75 := by
  unfold valB may
  simp only
  split
  · rename_i h
    split
    · have := intB_len hn; simp; omega
    · rcases may_cases (k := k) (n := n) (s := s) with ⟨rfl, h'⟩ | ⟨rfl, rfl, h'⟩ | ⟨hm, _⟩
      · rename_i h1; exact absurd rfl h1
      · have := textB_len h'; simp; omega
      · rw [h] at hm; cases hm
  · simp
theorem valB_no {k n : Int} {s : ByteArray} (h : mayB k n s = false) : valB (k, n, s) = [] := by
  unfold valB may
  simp only
  rw [h, if_neg (by decide)]
end Go.Proofs.Ytoghgjgaolinaaa
set_option linter.unusedVariables false
set_option linter.unusedSimpArgs false
namespace Go.Proofs.Ytoghgjgaolinaaa
open Go.RowKit
/-- Values, one behind the other. -/
def valsB (l : List Vl) : List UInt8 := l.flatMap valB
/-- A row's bytes. -/
def rowB (l : List Vl) : List UInt8 := if mayR l then UInt8.ofNat l.length :: valsB l else []
theorem valsB_cons (x : Vl) (l : List Vl) : valsB (x :: l) = valB x ++ valsB l := by simp [valsB]
theorem valsB_snoc (l : List Vl) (x : Vl) : valsB (l ++ [x]) = valsB l ++ valB x := by simp [valsB]
theorem back1 {x : Vl} (hx : may x = true) (hn : inI x.2.1) (l : List UInt8) : rdE (valB x ++ l) = 0 ∧ rdV (valB x ++ l) = x ∧ rdS (valB x ++ l) = (l, 0) := val_back (k := x.1) (n := x.2.1) (s := x.2.2) hn hx l
theorem valsB_len : ∀ l : List Vl, (∀ x ∈ l, inI x.2.1) → (valsB l).length ≤ 75 * l.length
  | [], _ => by simp [valsB]
  | x :: l, h => by
    have h1 := valB_len (k := x.1) (n := x.2.1) (s := x.2.2) (h x (by simp))
    have h2 := valsB_len l (fun y hy => h y (by simp [hy]))
    rw [valsB_cons, List.length_append, List.length_cons]
    have e : valB (x.1, x.2.1, x.2.2) = valB x := rfl
    rw [e] at h1
    omega
theorem rowB_len {l : List Vl} (h : ∀ x ∈ l, inI x.2.1) : (rowB l).length ≤ 601 := by
  unfold rowB
  split
  · rename_i hm
    have := valsB_len l h
    have := (mayR_iff.1 hm).1
    simp only [List.length_cons]; omega
  · simp
theorem valsB_inj : ∀ a b : List Vl, (∀ x ∈ a, may x = true ∧ inI x.2.1) → (∀ x ∈ b, may x = true ∧ inI x.2.1) → a.length = b.length → ∀ p q, valsB a ++ p = valsB b ++ q → a = b
  | [], [], _, _, _, _, _, _ => rfl
  | [], _ :: _, _, _, h, _, _, _ => by simp at h
  | _ :: _, [], _, _, h, _, _, _ => by simp at h
  | x :: a, y :: b, ha, hb, hl, p, q, h => by
    rw [valsB_cons, valsB_cons, List.append_assoc, List.append_assoc] at h
    have h1 := back1 (ha x (by simp)).1 (ha x (by simp)).2 (valsB a ++ p)
    have h2 := back1 (hb y (by simp)).1 (hb y (by simp)).2 (valsB b ++ q)
    rw [h] at h1
    have e1 : x = y := h1.2.1.symm.trans h2.2.1
    have e2 : valsB a ++ p = valsB b ++ q := by
      have := h1.2.2.symm.trans h2.2.2
      exact congrArg Prod.fst this
    subst e1
    rw [valsB_inj a b (fun z hz => ha z (by simp [hz])) (fun z hz => hb z (by simp [hz])) (by simpa using hl) p q e2]
theorem rowB_inj {a b : List Vl} (ha : mayR a = true) (hb : mayR b = true) (na : ∀ x ∈ a, inI x.2.1) (nb : ∀ x ∈ b, inI x.2.1) : rowB a = rowB b ↔ a = b := by
  constructor
  · intro h
    unfold rowB at h
    rw [if_pos ha, if_pos hb] at h
    obtain ⟨la, ma⟩ := mayR_iff.1 ha
    obtain ⟨lb, mb⟩ := mayR_iff.1 hb
    injection h with h1 h2
    have hl : a.length = b.length := by
      have := congrArg UInt8.toNat h1
      simp at this
      omega
    exact valsB_inj a b (fun x hx => ⟨ma x hx, na x hx⟩) (fun x hx => ⟨mb x hx, nb x hx⟩) hl [] [] (by simpa using h2)
  · rintro rfl; rfl
/-- n values, one after another: what is wrong; what is left behind; the values. -/
def rsE : Nat → List UInt8 → Int
  | 0, _ => 0
  | n + 1, l => if rdE l = 0 then rsE n (rdS l).1 else rdE l
def rsS : Nat → List UInt8 → List UInt8 × Int
  | 0, l => (l, 0)
  | n + 1, l => if rdE l = 0 then rsS n (rdS l).1 else rdS l
def rsV : Nat → List UInt8 → List Vl
  | 0, _ => []
  | n + 1, l => rdV l :: rsV n (rdS l).1
theorem rsV_len : ∀ n l, (rsV n l).length = n
  | 0, _ => rfl
  | n + 1, l => by simp only [rsV, List.length_cons, rsV_len n]
/-- A row. -/
def rwE : List UInt8 → Int
  | [] => 5
  | c :: r => if 8 < c.toNat then 4 else rsE c.toNat r
def rwS : List UInt8 → List UInt8 × Int
  | [] => ([], 5)
  | c :: r => if 8 < c.toNat then (r, 0) else rsS c.toNat r
def rwV (l : List UInt8) : List Vl := if rwE l = 0 then (match l with
  | [] => []
  | c :: r => rsV c.toNat r) else []
theorem rs_back : ∀ (a : List Vl), (∀ x ∈ a, may x = true ∧ inI x.2.1) → ∀ l, rsE a.length (valsB a ++ l) = 0 ∧ rsV a.length (valsB a ++ l) = a ∧ rsS a.length (valsB a ++ l) = (l, 0)
  | [], _, l => ⟨rfl, rfl, rfl⟩
  | x :: a, h, l => by
    obtain ⟨h1, h2, h3⟩ := back1 (h x (by simp)).1 (h x (by simp)).2 (valsB a ++ l)
    obtain ⟨i1, i2, i3⟩ := rs_back a (fun z hz => h z (by simp [hz])) l
    rw [valsB_cons, List.append_assoc, List.length_cons]
    simp only [rsE, rsV, rsS, h1, h2, h3, if_true, i1, i2, i3, and_self]
theorem row_back {a : List Vl} (hm : mayR a = true) (hn : ∀ x ∈ a, inI x.2.1) (l : List UInt8) : rwE (rowB a ++ l) = 0 ∧ rwV (rowB a ++ l) = a ∧ rwS (rowB a ++ l) = (l, 0) := by
  obtain ⟨la, ma⟩ := mayR_iff.1 hm
  have hb := rs_back a (fun x hx => ⟨ma x hx, hn x hx⟩) l
  have ht : (UInt8.ofNat a.length).toNat = a.length := by simp; omega
  unfold rowB
  rw [if_pos hm, List.cons_append]
  have e1 : rwE (UInt8.ofNat a.length :: (valsB a ++ l)) = 0 := by
    simp only [rwE, ht]; rw [if_neg (by omega)]; exact hb.1
  refine ⟨e1, ?_, ?_⟩
  · unfold rwV; rw [if_pos e1]; simp only [ht]; exact hb.2.1
  · simp only [rwS, ht]; rw [if_neg (by omega)]; exact hb.2.2
end Go.Proofs.Ytoghgjgaolinaaa
set_option linter.unusedVariables false
set_option linter.unusedSimpArgs false
namespace Go.Proofs.Ytoghgjgaolinaaa
open Go.RowKit
attribute [local go_sem] GW.cell GW.frozen In.eq_true In.le_true In.ne In.ne' In.ne_add In.ne_add' In.lt_add Upto.le_true Upto.le_add Upto.lt_add
theorem lenB_lit {n : Nat} (h : n ≤ 8) (B : Nat) (w : World) (hB : B ≤ w.heap.size) : OwnB (w.alloc (.cells #[.int .u8 (n : Int)] 5)) B (.slice (some ⟨w.heap.size, 0, none⟩) 1 1) [UInt8.ofNat n] := by
  have h1 := World.ownsRow_lit (base := B) (e := 5) (size := 1) w #[.int .u8 (n : Int)] 1 hB (by decide) rfl
  have e : bs [UInt8.ofNat n] = [.int .u8 (n : Int)] := by
    simp only [bs, List.map_cons, List.map_nil]
    have : (UInt8.ofNat n).toNat = n := by simp; omega
    rw [this]
  unfold OwnB
  rw [e]
  exact h1
theorem valB_le (x : Vl) (h : inI x.2.1) : (valB x).length ≤ 75 := valB_len (k := x.1) (n := x.2.1) (s := x.2.2) h
set_option maxHeartbeats 4000000 in
set_option maxRecDepth 100000 in
theorem rowBytes_c (l : List Vl) (hn : ∀ x ∈ l, inI x.2.1) (v : Value) (w : World) (hl : Rw w [] v l) : Calls Try.prog 101 #[v] w fun e w' => ∃ v', e = .returned v' ∧ OwnB w' w.heap.size v' (rowB l) ∧ Ext w w' := by
  have h1 := hide (fun w' (hX : Ext w w') => rowMay_c l v w' (Sl.ext hl hX))
  have hX0 := hide (Ext.refl w)
  obtain ⟨A, cap, rfl, hlc, hlm, hat⟩ := rw_form hl
  unfold maxLen at hlm
  replace hat := hide hat
  clear hl
  cases ha : mayR l
  · have e : rowB l = [] := by unfold rowB; rw [ha, if_neg (by decide)]
    rw [e]
    rw [ha] at h1
    clear ha e
    go_enter Try.func101, Try.ntmps101
    go_wp2_with (go_at_call 72; (with_reducible refine seq_gw (h1.out _ hX0.out) ?_); intro g)
    go_returns
    exact ⟨_, rfl, World.ownsRow_nil _ _ _ _, g.grown⟩
  · have l8 := (mayR_iff.1 ha).1
    have e : rowB l = UInt8.ofNat l.length :: valsB l := by unfold rowB; rw [if_pos ha]
    rw [ha] at h1
    obtain ⟨R, hR⟩ : ∃ R, R = rowB l := ⟨_, rfl⟩
    rw [← hR]
    rw [e] at hR
    replace hR := hide hR
    have hm8 : (l.length : Int) % 256 = l.length := by omega
    have hlit := hide (fun (g : GW w) => lenB_lit l8 w.heap.size g.val (GW.size g))
    replace hn := hide hn
    clear ha e
    go_enter Try.func101, Try.ntmps101
    go_wp2_with (go_at_call 72; (with_reducible refine seq_gw (h1.out _ hX0.out) ?_); intro g)
    have hli := hlit.out g
    clear hlit h1 hX0 hm8
    go_loopg [3, 15] l.length (fun gh vv i wr => ∃ (k : Nat) (acc : List UInt8), i = .int .i64 k ∧ k + gh = l.length ∧ OwnB wr w.heap.size vv acc ∧ acc.length ≤ 1 + 75 * k ∧ Hid (acc = UInt8.ofNat l.length :: valsB (l.take k)) ∧ Ext w wr)
    case atStart => exact ⟨0, [UInt8.ofNat l.length], rfl, by omega, hli, by simp, (by show _ = _; simp [valsB]), g.grown.alloc _⟩
    case round =>
      obtain ⟨k, acc, rfl, hk, ho, hak, hacc, hX⟩ := hrel
      clear hli
      have hzX := hX.size
      by_cases hlt : k < l.length
      · obtain ⟨x, hx⟩ : ∃ x, l[k]? = some x := ⟨_, List.getElem?_eq_getElem hlt⟩
        obtain ⟨b, o, rfl, -, hb', c0, c1, c2⟩ := hat.out k x hx
        have k0 := cell_later hX c0
        have k1 := cell_later hX c1
        have k2 := cell_later hX c2
        have hbr : b < wr.heap.size := block_lt_of_cell k0
        have hxn := hn.out x (List.mem_of_getElem? hx)
        have hVl := valB_le x hxn
        have hvb := hide (fun w => vbytes_c x.1 x.2.1 x.2.2 hxn w)
        rw [show (x.1, x.2.1, x.2.2) = x from rfl] at hvb
        have hnx := hide (show acc ++ valB x = UInt8.ofNat l.length :: valsB (l.take (k + 1)) by rw [List.take_add_one, hx, hacc.out, Option.toList_some, valsB_snoc]; rfl)
        obtain ⟨B, hB⟩ : ∃ B, B = valB x := ⟨_, rfl⟩
        rw [← hB] at hVl hvb hnx
        replace hB := hide hB
        obtain ⟨xk, xn, xs⟩ := x
        clear hx c0 c1 c2 hacc hxn
        go_wp2_with (first | (go_at_call 131; refine (hvb.out _).mono ?_; rintro ee w1 ⟨v1, rfl, ho1, hx1⟩; have hz1 := hx1.size) | (at_builtin; (refine wpl_app tBytes rfl (.tmp 19) (.tmp 21) rfl rfl (own_ext ho (((Ext.refl wr).alloc _).trans hx1)) rfl (src_sl Try.underlying159 (Sl.own (S := []) ho1 (by simp)) (bs_one _) (by omega)) (by unfold maxLen; omega) (by omega) (by simp only [World.size_alloc] at hz1; omega) ?_; intro v2 w2 ho2 hg2 _; replace ho2 := own_app ho2)))
        go_roundg (l.length - (k + 1))
        case measure => omega
        case rel => exact ⟨k + 1, acc ++ B, by go_num, by omega, ho2, by rw [List.length_append]; omega, hnx, ext_grown (hX.trans ((((Ext.refl wr).alloc _).trans hx1))) hg2 (fun k hk => (ho.lt k hk).1)⟩
      · have hk' : k = l.length := by omega
        have hge : (l.length : Int) ≤ k := by omega
        have hac := hacc.out
        rw [List.take_of_length_le (by omega)] at hac
        have hRa := hide (hR.out.trans hac.symm)
        replace hk' := hide hk'
        clear hac
        go_wp2_with fail
        go_returns
        rw [hRa.out]
        exact ⟨_, rfl, ho, hX⟩
theorem rowKey_c (l : List Vl) (hn : ∀ x ∈ l, inI x.2.1) (v : Value) (w : World) (hl : Rw w [] v l) : Calls Try.prog 63 #[v] w fun e w' => e = .returned (.string ⟨(rowB l).toArray⟩) ∧ Ext w w' := by
  have hc := hide (rowBytes_c l hn v w hl)
  generalize rowB l = B at *
  clear hl
  go_enter Try.func63, Try.ntmps63
  go_wp2_with (go_at_call 101; refine hc.out.mono ?_; rintro ee w1 ⟨v1, rfl, ho1, hx1⟩; have hcv := run_str (P := Try.prog) Try.underlying159 Try.underlying5 Try.underlying9 (Sl.own (S := []) ho1 (by simp)))
  go_returns
  exact ⟨rfl, hx1⟩
end Go.Proofs.Ytoghgjgaolinaaa
set_option linter.unusedVariables false
set_option linter.unusedSimpArgs false
namespace Go.Proofs.Ytoghgjgaolinaaa
open Go.RowKit
attribute [local go_sem] GW.cell GW.frozen In.eq_true In.le_true In.ne In.ne' In.ne_add In.ne_add' In.lt_add Upto.le_true Upto.le_add Upto.lt_add
def jmpAt (T : List Fe) (r : List Vl) : List Jp := match getM (fent rowB) T (.string (rowB r)) with
  | some q => q.2.2.2
  | none => []
end Go.Proofs.Ytoghgjgaolinaaa
set_option linter.unusedVariables false
namespace Go.Proofs.Ytoghgjgaolinaaa
def idxP {α : Type} (p : α → Bool) : Nat → List α → Int
  | _, [] => -1
  | k, x :: r => if p x then idxP p (k + 1) r else k
theorem idxP_yes {α : Type} {p : α → Bool} {k : Nat} {x : α} {r : List α} (h : p x = true) : idxP p k (x :: r) = idxP p (k + 1) r := by
  show (if p x then _ else _) = _
  rw [h]; rfl
theorem idxP_no {α : Type} {p : α → Bool} {k : Nat} {x : α} {r : List α} (h : p x = false) : idxP p k (x :: r) = k := by
  show (if p x then _ else _) = _
  rw [h]; rfl
theorem idxP_ge {α : Type} (p : α → Bool) : ∀ (k : Nat) (l : List α), decide ((0 : Int) ≤ idxP p k l) = !l.all p
  | _, [] => rfl
  | k, x :: r => by
    rw [List.all_cons]
    cases h : p x
    · rw [idxP_no h]; simp
    · rw [idxP_yes h, Bool.true_and]; exact idxP_ge p (k + 1) r
/-- Are two lists of one length, and does a test hold pair by pair? -/
def eqP {α β : Type} (p : α → β → Bool) : List α → List β → Bool
  | [], [] => true
  | x :: a, y :: b => p x y && eqP p a b
  | [], _ :: _ => false
  | _ :: _, [] => false
theorem eqP_yes {α β : Type} {p : α → β → Bool} {x : α} {y : β} {a : List α} {b : List β} (h : p x y = true) : eqP p (x :: a) (y :: b) = eqP p a b := by
  show (p x y && eqP p a b) = _
  rw [h, Bool.true_and]
theorem eqP_no {α β : Type} {p : α → β → Bool} {x : α} {y : β} {a : List α} {b : List β} (h : p x y = false) : eqP p (x :: a) (y :: b) = false := by
  show (p x y && eqP p a b) = _
  rw [h, Bool.false_and]
theorem eqP_len {α β : Type} {p : α → β → Bool} : ∀ {a : List α} {b : List β}, a.length ≠ b.length → eqP p a b = false
  | [], [], h => absurd rfl h
  | [], _ :: _, _ => rfl
  | _ :: _, [], _ => rfl
  | x :: a, y :: b, h => by
    show (p x y && eqP p a b) = _
    rw [eqP_len (a := a) (b := b) (fun e => h (by simp [e])), Bool.and_false]
theorem eqP_iff {α β : Type} {p : α → β → Bool} : ∀ {a : List α} {b : List β}, eqP p a b = true ↔ a.length = b.length ∧ ∀ (i : Nat) (x : α) (y : β), a[i]? = some x → b[i]? = some y → p x y = true
  | [], [] => by simp [eqP]
  | [], _ :: _ => by simp [eqP]
  | _ :: _, [] => by simp [eqP]
  | x :: a, y :: b => by
    show (p x y && eqP p a b) = true ↔ _
    rw [Bool.and_eq_true, eqP_iff (a := a) (b := b)]
    constructor
    · rintro ⟨h, e, hr⟩
      refine ⟨by simp [e], fun i u v hu hv => ?_⟩
      cases i with
      | zero => simp at hu hv; subst hu; subst hv; exact h
      | succ i => exact hr i u v (by simpa using hu) (by simpa using hv)
    · rintro ⟨e, h⟩
      exact ⟨h 0 x y rfl rfl, by simpa using e, fun i u v hu hv => h (i + 1) u v (by simpa using hu) (by simpa using hv)⟩
theorem eqP_dec {α : Type} [DecidableEq α] : ∀ a b : List α, eqP (fun x y => decide (x = y)) a b = decide (a = b)
  | [], [] => rfl
  | [], _ :: _ => by simp [eqP]
  | _ :: _, [] => by simp [eqP]
  | x :: a, y :: b => by
    show (decide (x = y) && eqP _ a b) = _
    rw [eqP_dec a b]
    by_cases h : x = y
    · subst h; simp
    · rw [decide_eq_false h, Bool.false_and, eq_comm, decide_eq_false_iff_not]
      intro e; injection e with e _; exact h e
end Go.Proofs.Ytoghgjgaolinaaa
set_option linter.unusedVariables false
set_option linter.unusedSimpArgs false
namespace Go.Proofs.Ytoghgjgaolinaaa
open Go.RowKit
attribute [local go_sem] GW.cell GW.frozen In.eq_true In.le_true In.ne In.ne' In.ne_add In.ne_add' In.lt_add Upto.le_true Upto.le_add Upto.lt_add
def ltP (mk : Int) (j : Jp) : Bool := decide (j.1 < mk)
theorem bagLateP_c (kf : List Vl → List UInt8) (S : List Nat) (B mb n : Nat) (mk : Int) (T : List Fe) (q : List Vl) (j : Jp) (v : Value) (w : World) (h : Bg kf w S B mb n mk T) (hq : Rw w [] v q) : Calls Try.prog 26 #[.pointer (some ⟨B, 0, none⟩), em v j] w fun e w' => e = .returned (.bool (ltP mk j)) ∧ Ext w w' := bagLate_c kf S B mb n mk T q j v w h hq
theorem Bg.ext {kf : List Vl → List UInt8} {w w' : World} {S : List Nat} {B mb n : Nat} {mk : Int} {T : List Fe} (h : Bg kf w S B mb n mk T) (k : Ext w w') : Bg kf w' S B mb n mk T := ⟨h.1.ext k, h.2.1.kept (ext_by k) (by simp), fun p hp => ⟨Sl.ext (h.2.2 p hp).1 k, Sl.ext (h.2.2 p hp).2 k⟩⟩
set_option maxHeartbeats 2000000 in
theorem indexLate_c (kf : List Vl → List UInt8) (S : List Nat) (B mb n : Nat) (mk : Int) (T : List Fe) (L : List Ve) (v : Value) (w : World) (hcb0 : Bg kf w S B mb n mk T) (h : Ew w [] v L) : Calls Try.prog 61 #[v, .func (.func 26) #[.pointer (some ⟨B, 0, none⟩)] #[]] w fun e w' => e = .returned (.int .i64 (idxP (fun x : Ve => !ltP mk x.2.2) 0 L)) ∧ Ext w w' := by
  obtain ⟨A, cap, rfl, hl, hm, hat⟩ := ew_form h
  unfold maxLen at hm
  replace hat := hide hat
  have hcb := hide hcb0
  clear hcb0
  have hrows := hide h.2
  clear h
  obtain ⟨R, hR⟩ : ∃ R, R = idxP (fun x : Ve => !ltP mk x.2.2) 0 L := ⟨_, rfl⟩
  rw [← hR]
  replace hR := hide hR
  go_enter Try.func61, Try.ntmps61
  go_wp2_with fail
  go_loopg [8] L.length (fun gh i wr => ∃ (k : Nat), i = .int .i64 k ∧ k + gh = L.length ∧ Hid (R = idxP (fun x : Ve => !ltP mk x.2.2) k (L.drop k)) ∧ Ext w wr)
  case atStart => exact ⟨0, rfl, by omega, by simpa using hR, Ext.refl w⟩
  case round =>
    obtain ⟨k, rfl, hk, hRk, hX⟩ := hrel
    clear hR
    by_cases hlt : k < L.length
    · obtain ⟨x, hx⟩ : ∃ x, L[k]? = some x := ⟨_, List.getElem?_eq_getElem hlt⟩
      obtain ⟨b, o, rfl, -, hb, c0, c1, c2⟩ := hat.out k x hx
      have k0 := cell_later hX c0
      have k1 := cell_later hX c1
      have k2 := cell_later hX c2
      have hbr : b < wr.heap.size := block_lt_of_cell k0
      have hrw := Sl.ext (hrows.out x (List.mem_of_getElem? hx)) hX
      have hR2 := hRk.out
      rw [drop_cons hx] at hR2
      obtain ⟨xv, xq, xa, xn⟩ := x
      simp only at k0 k1 k2 hrw
      have hin := hide (fun w' (hXw : Ext wr w') => bagLateP_c kf S B mb n mk T xq (xa, xn) xv w' (hcb.out.ext (hX.trans hXw)) (Sl.ext hrw hXw))
      have hX00 := hide (Ext.refl wr)
      obtain ⟨XA, xcap, rfl⟩ := rw_val hrw
      clear c0 c1 c2 hat hx hrows hrw
      cases hmx : ltP mk (xa, xn)
      · rw [hmx] at hin
        rw [idxP_yes (p := (fun x : Ve => !ltP mk x.2.2)) (x := (.slice XA xq.length xcap, xq, xa, xn)) (by simp only; rw [hmx]; rfl)] at hR2
        replace hR2 := hide hR2
        replace hmx := hide hmx
        go_wp2_with (go_at_call 26; (with_reducible refine seq_gw (hin.out _ hX00.out) ?_); intro g)
        go_roundg (L.length - (k + 1))
        case measure => omega
        case rel => exact ⟨k + 1, by go_num, by omega, hR2, hX.trans g.grown⟩
      · rw [hmx] at hin
        rw [idxP_no (p := (fun x : Ve => !ltP mk x.2.2)) (x := (.slice XA xq.length xcap, xq, xa, xn)) (by simp only; rw [hmx]; rfl)] at hR2
        replace hR2 := hide hR2
        replace hmx := hide hmx
        go_wp2_with (go_at_call 26; (with_reducible refine seq_gw (hin.out _ hX00.out) ?_); intro g)
        go_returns
        exact ⟨by rw [hR2.out]; rfl, hX.trans g.grown⟩
    · have hk' : k = L.length := by omega
      have hge : (L.length : Int) ≤ k := by omega
      have hR2 := hRk.out
      rw [hk', List.drop_length] at hR2
      replace hR2 := hide hR2
      replace hk' := hide hk'
      go_wp2_with fail
      go_returns
      exact ⟨by rw [hR2.out]; rfl, hX⟩
set_option maxHeartbeats 1000000 in
theorem containsLate_c (kf : List Vl → List UInt8) (S : List Nat) (B mb n : Nat) (mk : Int) (T : List Fe) (L : List Ve) (v : Value) (w : World) (hcb0 : Bg kf w S B mb n mk T) (h : Ew w [] v L) : Calls Try.prog 25 #[v, .func (.func 26) #[.pointer (some ⟨B, 0, none⟩)] #[]] w fun e w' => e = .returned (.bool (!L.all (fun x : Ve => !ltP mk x.2.2))) ∧ Ext w w' := by
  have hc := hide (indexLate_c kf S B mb n mk T L v w hcb0 h)
  have e := hide (idxP_ge (fun x : Ve => !ltP mk x.2.2) 0 L)
  generalize idxP (fun x : Ve => !ltP mk x.2.2) 0 L = z at *
  obtain ⟨A, cap, rfl, -, -, -⟩ := ew_form h
  clear h
  go_enter Try.func25, Try.ntmps25
  go_wp2_with (go_at_call 61; (with_reducible refine seq_gw hc.out ?_); intro g)
  go_returns
  exact ⟨by rw [← e.out]; first | rfl | simp, g.grown⟩
end Go.Proofs.Ytoghgjgaolinaaa
