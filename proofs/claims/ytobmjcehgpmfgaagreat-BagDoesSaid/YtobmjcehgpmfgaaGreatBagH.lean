/-
  A helper of ours: no claim of its own. Layer 12 (bag): whether any edge is late, by the code.
-/
import Derived.Test.YtobmjcehgpmfgaaGreatStepS
import Derived.Test.YtobmjcehgpmfgaaGreatValX
import Derived.Test.YtobmjcehgpmfgaaGreatRowA
import Derived.Test.YtobmjcehgpmfgaaGreatBagE
import Derived.StringKeys

import Derived.Test.YtobmjcehgpmfgaaGreatBagD
set_option linter.unusedVariables false
set_option linter.unusedSimpArgs false
namespace Go.Proofs.YtobmjcehgpmfgaaGreat
open Go.RowKit
/-- Values, one behind the other. -/
def valsB (l : List Vl) : List UInt8 := l.flatMap valB
/-- A row's bytes. -/
def rowB (l : List Vl) : List UInt8 := if mayR l then UInt8.ofNat l.length :: valsB l else []
theorem valsB_cons (x : Vl) (l : List Vl) : valsB (x :: l) = valB x ++ valsB l := by simp [valsB]
theorem valsB_snoc (l : List Vl) (x : Vl) : valsB (l ++ [x]) = valsB l ++ valB x := by simp [valsB]
theorem back1 {x : Vl} (hx : may x = true) (hn : inI x.2.1) (l : List UInt8) : rdE (valB x ++ l) = 0 ∧ rdV (valB x ++ l) = x ∧ rdS (valB x ++ l) = (l, 0) := val_back (k := x.1) (n := x.2.1) (s := x.2.2) hn hx l
theorem valsB_len : ∀ l : List Vl, (∀ x ∈ l, inI x.2.1) → (valsB l).length ≤ 75 * l.length
  | [], _ => by simp [valsB]
  | x :: l, h => by
    have h1 := valB_len (k := x.1) (n := x.2.1) (s := x.2.2) (h x (by simp))
    have h2 := valsB_len l (fun y hy => h y (by simp [hy]))
    rw [valsB_cons, List.length_append, List.length_cons]
    have e : valB (x.1, x.2.1, x.2.2) = valB x := rfl
    rw [e] at h1
    omega
theorem rowB_len {l : List Vl} (h : ∀ x ∈ l, inI x.2.1) : (rowB l).length ≤ 601 := by
  unfold rowB
  split
  · rename_i hm
    have := valsB_len l h
    have := (mayR_iff.1 hm).1
    simp only [List.length_cons]; omega
  · simp
theorem valsB_inj : ∀ a b : List Vl, (∀ x ∈ a, may x = true ∧ inI x.2.1) → (∀ x ∈ b, may x = true ∧ inI x.2.1) → a.length = b.length → ∀ p q, valsB a ++ p = valsB b ++ q → a = b
  | [], [], _, _, _, _, _, _ => rfl
  | [], _ :: _, _, _, h, _, _, _ => by simp at h
  | _ :: _, [], _, _, h, _, _, _ => by simp at h
  | x :: a, y :: b, ha, hb, hl, p, q, h => by
    rw [valsB_cons, valsB_cons, List.append_assoc, List.append_assoc] at h
    have h1 := back1 (ha x (by simp)).1 (ha x (by simp)).2 (valsB a ++ p)
    have h2 := back1 (hb y (by simp)).1 (hb y (by simp)).2 (valsB b ++ q)
    rw [h] at h1
    have e1 : x = y := h1.2.1.symm.trans h2.2.1
    have e2 : valsB a ++ p = valsB b ++ q := by
      have := h1.2.2.symm.trans h2.2.2
      exact congrArg Prod.fst this
    subst e1
    rw [valsB_inj a b (fun z hz => ha z (by simp [hz])) (fun z hz => hb z (by simp [hz])) (by simpa using hl) p q e2]
theorem rowB_inj {a b : List Vl} (ha : mayR a = true) (hb : mayR b = true) (na : ∀ x ∈ a, inI x.2.1) (nb : ∀ x ∈ b, inI x.2.1) : rowB a = rowB b ↔ a = b := by
  constructor
  · intro h
    unfold rowB at h
    rw [if_pos ha, if_pos hb] at h
    obtain ⟨la, ma⟩ := mayR_iff.1 ha
    obtain ⟨lb, mb⟩ := mayR_iff.1 hb
    injection h with h1 h2
    have hl : a.length = b.length := by
      have := congrArg UInt8.toNat h1
      simp at this
      omega
    exact valsB_inj a b (fun x hx => ⟨ma x hx, na x hx⟩) (fun x hx => ⟨mb x hx, nb x hx⟩) hl [] [] (by simpa using h2)
  · rintro rfl; rfl
/-- n values, one after another: what is wrong; what is left behind; the values. -/
def rsE : Nat → List UInt8 → Int
  | 0, _ => 0
  | n + 1, l => if rdE l = 0 then rsE n (rdS l).1 else rdE l
def rsS : Nat → List UInt8 → List UInt8 × Int
  | 0, l => (l, 0)
  | n + 1, l => if rdE l = 0 then rsS n (rdS l).1 else rdS l
def rsV : Nat → List UInt8 → List Vl
  | 0, _ => []
  | n + 1, l => rdV l :: rsV n (rdS l).1
/-- A row. -/
def rwE : List UInt8 → Int
  | [] => 5
  | c :: r => if 8 < c.toNat then 4 else rsE c.toNat r
def rwS : List UInt8 → List UInt8 × Int
  | [] => ([], 5)
  | c :: r => if 8 < c.toNat then (r, 0) else rsS c.toNat r
def rwV (l : List UInt8) : List Vl := if rwE l = 0 then (match l with
  | [] => []
  | c :: r => rsV c.toNat r) else []
end Go.Proofs.YtobmjcehgpmfgaaGreat
set_option linter.unusedVariables false
set_option linter.unusedSimpArgs false
namespace Go.Proofs.YtobmjcehgpmfgaaGreat
open Go.RowKit
attribute [local go_sem] GW.cell GW.frozen In.eq_true In.le_true In.ne In.ne' In.ne_add In.ne_add' In.lt_add Upto.le_true Upto.le_add Upto.lt_add
theorem lenB_lit {n : Nat} (h : n ≤ 8) (B : Nat) (w : World) (hB : B ≤ w.heap.size) : OwnB (w.alloc (.cells #[.int .u8 (n : Int)] 5)) B (.slice (some ⟨w.heap.size, 0, none⟩) 1 1) [UInt8.ofNat n] := by
  have h1 := World.ownsRow_lit (base := B) (e := 5) (size := 1) w #[.int .u8 (n : Int)] 1 hB (by decide) rfl
  have e : bs [UInt8.ofNat n] = [.int .u8 (n : Int)] := by
    simp only [bs, List.map_cons, List.map_nil]
    have : (UInt8.ofNat n).toNat = n := by simp; omega
    rw [this]
  unfold OwnB
  rw [e]
  exact h1
theorem valB_le (x : Vl) (h : inI x.2.1) : (valB x).length ≤ 75 := valB_len (k := x.1) (n := x.2.1) (s := x.2.2) h
set_option maxHeartbeats 4000000 in
set_option maxRecDepth 100000 in
theorem rowBytes_c (l : List Vl) (hn : ∀ x ∈ l, inI x.2.1) (v : Value) (w : World) (hl : Rw w [] v l) : Calls Tryz.prog 162 #[v] w fun e w' => ∃ v', e = .returned v' ∧ OwnB w' w.heap.size v' (rowB l) ∧ Ext w w' := by
  have h1 := hide (fun w' (hX : Ext w w') => rowMay_c l v w' (Sl.ext hl hX))
  have hX0 := hide (Ext.refl w)
  obtain ⟨A, cap, rfl, hlc, hlm, hat⟩ := rw_form hl
  unfold maxLen at hlm
  replace hat := hide hat
  clear hl
  cases ha : mayR l
  · have e : rowB l = [] := by unfold rowB; rw [ha, if_neg (by decide)]
    rw [e]
    rw [ha] at h1
    clear ha e
    go_enter Tryz.func162, Tryz.ntmps162
    go_wp2_with (go_at_call 105; (with_reducible refine seq_gw (h1.out _ hX0.out) ?_); intro g)
    go_returns
    exact ⟨_, rfl, World.ownsRow_nil _ _ _ _, g.grown⟩
  · have l8 := (mayR_iff.1 ha).1
    have e : rowB l = UInt8.ofNat l.length :: valsB l := by unfold rowB; rw [if_pos ha]
    rw [ha] at h1
    obtain ⟨R, hR⟩ : ∃ R, R = rowB l := ⟨_, rfl⟩
    rw [← hR]
    rw [e] at hR
    replace hR := hide hR
    have hm8 : (l.length : Int) % 256 = l.length := by omega
    have hlit := hide (fun (g : GW w) => lenB_lit l8 w.heap.size g.val (GW.size g))
    replace hn := hide hn
    clear ha e
    go_enter Tryz.func162, Tryz.ntmps162
    go_wp2_with (go_at_call 105; (with_reducible refine seq_gw (h1.out _ hX0.out) ?_); intro g)
    have hli := hlit.out g
    clear hlit h1 hX0 hm8
    go_loopg [3, 15] l.length (fun gh vv i wr => ∃ (k : Nat) (acc : List UInt8), i = .int .i64 k ∧ k + gh = l.length ∧ OwnB wr w.heap.size vv acc ∧ acc.length ≤ 1 + 75 * k ∧ Hid (acc = UInt8.ofNat l.length :: valsB (l.take k)) ∧ Ext w wr)
    case atStart => exact ⟨0, [UInt8.ofNat l.length], rfl, by omega, hli, by simp, (by show _ = _; simp [valsB]), g.grown.alloc _⟩
    case round =>
      obtain ⟨k, acc, rfl, hk, ho, hak, hacc, hX⟩ := hrel
      clear hli
      have hzX := hX.size
      by_cases hlt : k < l.length
      · obtain ⟨x, hx⟩ : ∃ x, l[k]? = some x := ⟨_, List.getElem?_eq_getElem hlt⟩
        obtain ⟨b, o, rfl, -, hb', c0, c1, c2⟩ := hat.out k x hx
        have k0 := cell_later hX c0
        have k1 := cell_later hX c1
        have k2 := cell_later hX c2
        have hbr : b < wr.heap.size := block_lt_of_cell k0
        have hxn := hn.out x (List.mem_of_getElem? hx)
        have hVl := valB_le x hxn
        have hvb := hide (fun w => vbytes_c x.1 x.2.1 x.2.2 hxn w)
        rw [show (x.1, x.2.1, x.2.2) = x from rfl] at hvb
        have hnx := hide (show acc ++ valB x = UInt8.ofNat l.length :: valsB (l.take (k + 1)) by rw [List.take_add_one, hx, hacc.out, Option.toList_some, valsB_snoc]; rfl)
        obtain ⟨B, hB⟩ : ∃ B, B = valB x := ⟨_, rfl⟩
        rw [← hB] at hVl hvb hnx
        replace hB := hide hB
        obtain ⟨xk, xn, xs⟩ := x
        clear hx c0 c1 c2 hacc hxn
        go_wp2_with (first | (go_at_call 221; refine (hvb.out _).mono ?_; rintro ee w1 ⟨v1, rfl, ho1, hx1⟩; have hz1 := hx1.size) | (at_builtin; (refine wpl_app tBytes rfl (.tmp 19) (.tmp 21) rfl rfl (own_ext ho (((Ext.refl wr).alloc _).trans hx1)) rfl (src_sl Tryz.underlying216 (Sl.own (S := []) ho1 (by simp)) (bs_one _) (by omega)) (by unfold maxLen; omega) (by omega) (by simp only [World.size_alloc] at hz1; omega) ?_; intro v2 w2 ho2 hg2 _; replace ho2 := own_app ho2)))
        go_roundg (l.length - (k + 1))
        case measure => omega
        case rel => exact ⟨k + 1, acc ++ B, by go_num, by omega, ho2, by rw [List.length_append]; omega, hnx, ext_grown (hX.trans ((((Ext.refl wr).alloc _).trans hx1))) hg2 (fun k hk => (ho.lt k hk).1)⟩
      · have hk' : k = l.length := by omega
        have hge : (l.length : Int) ≤ k := by omega
        have hac := hacc.out
        rw [List.take_of_length_le (by omega)] at hac
        have hRa := hide (hR.out.trans hac.symm)
        replace hk' := hide hk'
        clear hac
        go_wp2_with fail
        go_returns
        rw [hRa.out]
        exact ⟨_, rfl, ho, hX⟩
theorem rowKey_c (l : List Vl) (hn : ∀ x ∈ l, inI x.2.1) (v : Value) (w : World) (hl : Rw w [] v l) : Calls Tryz.prog 91 #[v] w fun e w' => e = .returned (.string ⟨(rowB l).toArray⟩) ∧ Ext w w' := by
  have hc := hide (rowBytes_c l hn v w hl)
  generalize rowB l = B at *
  clear hl
  go_enter Tryz.func91, Tryz.ntmps91
  go_wp2_with (go_at_call 162; refine hc.out.mono ?_; rintro ee w1 ⟨v1, rfl, ho1, hx1⟩; have hcv := run_str (P := Tryz.prog) Tryz.underlying216 Tryz.underlying5 Tryz.underlying9 (Sl.own (S := []) ho1 (by simp)))
  go_returns
  exact ⟨rfl, hx1⟩
end Go.Proofs.YtobmjcehgpmfgaaGreat
set_option linter.unusedVariables false
set_option linter.unusedSimpArgs false
namespace Go.Proofs.YtobmjcehgpmfgaaGreat
open Go.RowKit
attribute [local go_sem] GW.cell GW.frozen In.eq_true In.le_true In.ne In.ne' In.ne_add In.ne_add' In.lt_add Upto.le_true Upto.le_add Upto.lt_add
def jmpAt (T : List Fe) (r : List Vl) : List Jp := match getM (fent rowB) T (.string (rowB r)) with
  | some q => q.2.2.2
  | none => []
set_option maxHeartbeats 4000000 in
set_option maxRecDepth 100000 in
theorem bagJumps_c (S : List Nat) (B mb n : Nat) (mk : Int) (T : List Fe) (hz : ∀ p ∈ T, p.2.2.2.length * 16 ≤ 140737488351232) (r : List Vl) (hr : ∀ x ∈ r, inI x.2.1) (hrl : (rowB r).length ≤ 1000000000) (v : Value) (w : World) (h : Bg rowB w S B mb n mk T) (hv : Rw w [] v r) : Calls Tryz.prog 32 #[.pointer (some ⟨B, 0, none⟩), v] w fun e w' => ∃ v', e = .returned v' ∧ OwnJ w' w.heap.size v' (jmpAt T r) ∧ Ext w w' := by
  have c1 := h.1.cell 1 rfl
  have hlt := h.1.lt
  haveI : In B w := ⟨hlt⟩
  have hkc := hide (fun w' (hX : Ext w w') => rowKey_c r hr v w' (Sl.ext hv hX))
  obtain ⟨RA, rcap, rfl⟩ := rw_val hv
  have hkey : keyOf Tryz.prog 9 (.string ⟨(rowB r).toArray⟩) = some (.string (rowB r)) := by
    have := Go.WideMaps.keyOf_string_mk (P := Tryz.prog) (k := 9) Tryz.underlying9 (s := ⟨(rowB r).toArray⟩) (by show (rowB r).toArray.size ≤ _; rw [List.size_toArray]; unfold maxLen; omega)
    simpa using this
  have hz0 : ∀ w', (zeroValue 128).run Tryz.prog w' = .ok (.agg #[.slice none 0 0, .slice none 0 0]) w' := fun _ => by kernel_rfl
  have key1 : ∀ g : GW w, (Instr.lookup 117 (.map (some mb)) (.string ⟨(rowB r).toArray⟩) false).run Tryz.prog g.val = .ok (((getM (fent rowB) T (.string (rowB r))).map fun q => (fent rowB q).2).getD (.agg #[.slice none 0 0, .slice none 0 0])) g.val := fun g => (h.2.1.kept (ext_by g.grown) (by simp)).lookup fnKey Tryz.underlying117 (hz0 _) hkey
  obtain ⟨v1, JB, jc, hlk, hjl⟩ : ∃ v1 JB jc, (∀ g : GW w, (Instr.lookup 117 (.map (some mb)) (.string ⟨(rowB r).toArray⟩) false).run Tryz.prog g.val = .ok (.agg #[v1, .slice JB (jmpAt T r).length jc]) g.val) ∧ Jw w [] (.slice JB (jmpAt T r).length jc) (jmpAt T r) ∧ (jmpAt T r).length * 16 ≤ 140737488351232 := by
    unfold jmpAt
    cases hgm : getM (fent rowB) T (.string (rowB r)) with
    | none =>
      rw [hgm] at key1
      exact ⟨.slice none 0 0, none, 0, key1, Sl.nil _ _ _, by simp⟩
    | some q2 =>
      rw [hgm] at key1
      have hmem := List.mem_of_find?_eq_some hgm
      have hjw := (h.2.2 q2 hmem).2
      obtain ⟨J2, c2, e2, -⟩ := jw_form hjw
      refine ⟨q2.1, J2, c2, fun g => ?_, ?_, hz q2 hmem⟩
      · rw [← e2]; exact key1 g
      · rw [← e2]; exact Sl.less hjw (by simp)
  have hcl := hide (fun w' (hX : Ext w w') => jmpClone_c (jmpAt T r) (.slice JB (jmpAt T r).length jc) w' (Sl.ext hjl.1 hX) hjl.2)
  generalize jmpAt T r = J at *
  have hfd : ∀ w' : World, (Instr.field 128 (.agg #[v1, .slice JB J.length jc]) 1).run Tryz.prog w' = .ok (.slice JB J.length jc) w' := fun _ => by first | kernel_rfl | simp [go_sem]
  obtain ⟨K, hK⟩ : ∃ K : ByteArray, K = ⟨(rowB r).toArray⟩ := ⟨_, rfl⟩
  rw [← hK] at hkc hlk
  replace hK := hide hK
  clear h hv hkey key1 hz0 hjl hz
  go_enter Tryz.func32, Tryz.ntmps32
  go_wp2_with fail
  refine wp_region_gw_tail 8 (by kernel_rfl) (by kernel_rfl) ?_
  simp only [List.take_succ_cons, List.take_zero, List.drop_succ_cons, List.drop_zero]
  repeat (go_big_quiet_step ((go_at_call 91; with_reducible exact quiet_gw (hkc.out _ (GW.grown _)))))
  refine wpQuiet_nil ?_
  intro g
  go_wp2_with (go_at_call 90; (refine (hcl.out _ g.grown).mono ?_; rintro ee w5 ⟨v5, rfl, ho5, hx5⟩; obtain ⟨A5, c5, e5⟩ := own_form ho5; subst e5; replace ho5 := hide ho5; replace hx5 := hide hx5))
  go_returns
  exact ⟨_, rfl, own_base ho5.out g.grown.size, g.grown.trans hx5.out⟩
end Go.Proofs.YtobmjcehgpmfgaaGreat
set_option linter.unusedVariables false
namespace Go.Proofs.YtobmjcehgpmfgaaGreat
def idxP {α : Type} (p : α → Bool) : Nat → List α → Int
  | _, [] => -1
  | k, x :: r => if p x then idxP p (k + 1) r else k
theorem idxP_yes {α : Type} {p : α → Bool} {k : Nat} {x : α} {r : List α} (h : p x = true) : idxP p k (x :: r) = idxP p (k + 1) r := by
  show (if p x then _ else _) = _
  rw [h]; rfl
theorem idxP_no {α : Type} {p : α → Bool} {k : Nat} {x : α} {r : List α} (h : p x = false) : idxP p k (x :: r) = k := by
  show (if p x then _ else _) = _
  rw [h]; rfl
theorem idxP_ge {α : Type} (p : α → Bool) : ∀ (k : Nat) (l : List α), decide ((0 : Int) ≤ idxP p k l) = !l.all p
  | _, [] => rfl
  | k, x :: r => by
    rw [List.all_cons]
    cases h : p x
    · rw [idxP_no h]; simp
    · rw [idxP_yes h, Bool.true_and]; exact idxP_ge p (k + 1) r
/-- Are two lists of one length, and does a test hold pair by pair? -/
def eqP {α β : Type} (p : α → β → Bool) : List α → List β → Bool
  | [], [] => true
  | x :: a, y :: b => p x y && eqP p a b
  | [], _ :: _ => false
  | _ :: _, [] => false
theorem eqP_yes {α β : Type} {p : α → β → Bool} {x : α} {y : β} {a : List α} {b : List β} (h : p x y = true) : eqP p (x :: a) (y :: b) = eqP p a b := by
  show (p x y && eqP p a b) = _
  rw [h, Bool.true_and]
theorem eqP_no {α β : Type} {p : α → β → Bool} {x : α} {y : β} {a : List α} {b : List β} (h : p x y = false) : eqP p (x :: a) (y :: b) = false := by
  show (p x y && eqP p a b) = _
  rw [h, Bool.false_and]
theorem eqP_len {α β : Type} {p : α → β → Bool} : ∀ {a : List α} {b : List β}, a.length ≠ b.length → eqP p a b = false
  | [], [], h => absurd rfl h
  | [], _ :: _, _ => rfl
  | _ :: _, [], _ => rfl
  | x :: a, y :: b, h => by
    show (p x y && eqP p a b) = _
    rw [eqP_len (a := a) (b := b) (fun e => h (by simp [e])), Bool.and_false]
end Go.Proofs.YtobmjcehgpmfgaaGreat
set_option linter.unusedVariables false
set_option linter.unusedSimpArgs false
namespace Go.Proofs.YtobmjcehgpmfgaaGreat
open Go.RowKit
attribute [local go_sem] GW.cell GW.frozen In.eq_true In.le_true In.ne In.ne' In.ne_add In.ne_add' In.lt_add Upto.le_true Upto.le_add Upto.lt_add
def ltP (mk : Int) (j : Jp) : Bool := decide (j.1 < mk)
theorem bagLateP_c (kf : List Vl → List UInt8) (S : List Nat) (B mb n : Nat) (mk : Int) (T : List Fe) (q : List Vl) (j : Jp) (v : Value) (w : World) (h : Bg kf w S B mb n mk T) (hq : Rw w [] v q) : Calls Tryz.prog 72 #[.pointer (some ⟨B, 0, none⟩), em v j] w fun e w' => e = .returned (.bool (ltP mk j)) ∧ Ext w w' := bagLate_c kf S B mb n mk T q j v w h hq
theorem Bg.ext {kf : List Vl → List UInt8} {w w' : World} {S : List Nat} {B mb n : Nat} {mk : Int} {T : List Fe} (h : Bg kf w S B mb n mk T) (k : Ext w w') : Bg kf w' S B mb n mk T := ⟨h.1.ext k, h.2.1.kept (ext_by k) (by simp), fun p hp => ⟨Sl.ext (h.2.2 p hp).1 k, Sl.ext (h.2.2 p hp).2 k⟩⟩
set_option maxHeartbeats 2000000 in
theorem indexLate_c (kf : List Vl → List UInt8) (S : List Nat) (B mb n : Nat) (mk : Int) (T : List Fe) (L : List Ve) (v : Value) (w : World) (hcb0 : Bg kf w S B mb n mk T) (h : Ew w [] v L) : Calls Tryz.prog 141 #[v, .func (.func 72) #[.pointer (some ⟨B, 0, none⟩)] #[]] w fun e w' => e = .returned (.int .i64 (idxP (fun x : Ve => !ltP mk x.2.2) 0 L)) ∧ Ext w w' := by
  obtain ⟨A, cap, rfl, hl, hm, hat⟩ := ew_form h
  unfold maxLen at hm
  replace hat := hide hat
  have hcb := hide hcb0
  clear hcb0
  have hrows := hide h.2
  clear h
  obtain ⟨R, hR⟩ : ∃ R, R = idxP (fun x : Ve => !ltP mk x.2.2) 0 L := ⟨_, rfl⟩
  rw [← hR]
  replace hR := hide hR
  go_enter Tryz.func141, Tryz.ntmps141
  go_wp2_with fail
  go_loopg [8] L.length (fun gh i wr => ∃ (k : Nat), i = .int .i64 k ∧ k + gh = L.length ∧ Hid (R = idxP (fun x : Ve => !ltP mk x.2.2) k (L.drop k)) ∧ Ext w wr)
  case atStart => exact ⟨0, rfl, by omega, by simpa using hR, Ext.refl w⟩
  case round =>
    obtain ⟨k, rfl, hk, hRk, hX⟩ := hrel
    clear hR
    by_cases hlt : k < L.length
    · obtain ⟨x, hx⟩ : ∃ x, L[k]? = some x := ⟨_, List.getElem?_eq_getElem hlt⟩
      obtain ⟨b, o, rfl, -, hb, c0, c1, c2⟩ := hat.out k x hx
      have k0 := cell_later hX c0
      have k1 := cell_later hX c1
      have k2 := cell_later hX c2
      have hbr : b < wr.heap.size := block_lt_of_cell k0
      have hrw := Sl.ext (hrows.out x (List.mem_of_getElem? hx)) hX
      have hR2 := hRk.out
      rw [drop_cons hx] at hR2
      obtain ⟨xv, xq, xa, xn⟩ := x
      simp only at k0 k1 k2 hrw
      have hin := hide (fun w' (hXw : Ext wr w') => bagLateP_c kf S B mb n mk T xq (xa, xn) xv w' (hcb.out.ext (hX.trans hXw)) (Sl.ext hrw hXw))
      have hX00 := hide (Ext.refl wr)
      obtain ⟨XA, xcap, rfl⟩ := rw_val hrw
      clear c0 c1 c2 hat hx hrows hrw
      cases hmx : ltP mk (xa, xn)
      · rw [hmx] at hin
        rw [idxP_yes (p := (fun x : Ve => !ltP mk x.2.2)) (x := (.slice XA xq.length xcap, xq, xa, xn)) (by simp only; rw [hmx]; rfl)] at hR2
        replace hR2 := hide hR2
        replace hmx := hide hmx
        go_wp2_with (go_at_call 72; (with_reducible refine seq_gw (hin.out _ hX00.out) ?_); intro g)
        go_roundg (L.length - (k + 1))
        case measure => omega
        case rel => exact ⟨k + 1, by go_num, by omega, hR2, hX.trans g.grown⟩
      · rw [hmx] at hin
        rw [idxP_no (p := (fun x : Ve => !ltP mk x.2.2)) (x := (.slice XA xq.length xcap, xq, xa, xn)) (by simp only; rw [hmx]; rfl)] at hR2
        replace hR2 := hide hR2
        replace hmx := hide hmx
        go_wp2_with (go_at_call 72; (with_reducible refine seq_gw (hin.out _ hX00.out) ?_); intro g)
        go_returns
        exact ⟨by rw [hR2.out]; rfl, hX.trans g.grown⟩
    · have hk' : k = L.length := by omega
      have hge : (L.length : Int) ≤ k := by omega
      have hR2 := hRk.out
      rw [hk', List.drop_length] at hR2
      replace hR2 := hide hR2
      replace hk' := hide hk'
      go_wp2_with fail
      go_returns
      exact ⟨by rw [hR2.out]; rfl, hX⟩
set_option maxHeartbeats 1000000 in
theorem containsLate_c (kf : List Vl → List UInt8) (S : List Nat) (B mb n : Nat) (mk : Int) (T : List Fe) (L : List Ve) (v : Value) (w : World) (hcb0 : Bg kf w S B mb n mk T) (h : Ew w [] v L) : Calls Tryz.prog 71 #[v, .func (.func 72) #[.pointer (some ⟨B, 0, none⟩)] #[]] w fun e w' => e = .returned (.bool (!L.all (fun x : Ve => !ltP mk x.2.2))) ∧ Ext w w' := by
  have hc := hide (indexLate_c kf S B mb n mk T L v w hcb0 h)
  have e := hide (idxP_ge (fun x : Ve => !ltP mk x.2.2) 0 L)
  generalize idxP (fun x : Ve => !ltP mk x.2.2) 0 L = z at *
  obtain ⟨A, cap, rfl, -, -, -⟩ := ew_form h
  clear h
  go_enter Tryz.func71, Tryz.ntmps71
  go_wp2_with (go_at_call 141; (with_reducible refine seq_gw hc.out ?_); intro g)
  go_returns
  exact ⟨by rw [← e.out]; first | rfl | simp, g.grown⟩
end Go.Proofs.YtobmjcehgpmfgaaGreat
