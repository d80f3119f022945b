/-
  A helper of ours: no claim of its own. Layer 6 (row): a row written by the code, from how its values are.
-/
import Derived.Test.YthidjngipkelcaaDoorRowE
import Derived.Test.YthidjngipkelcaaDoorShelf
set_option linter.unusedVariables false
set_option linter.unusedSimpArgs false
namespace Go.Proofs.YthidjngipkelcaaDoor
open Go.RowKit
attribute [local go_sem] GW.cell GW.frozen In.eq_true In.le_true In.ne In.ne' In.ne_add In.ne_add' In.lt_add Upto.le_true Upto.le_add Upto.lt_add
theorem tStr : ElemT Tryd.prog 48 9 (.string ⟨#[]⟩) 1 16 := ElemT.mk' Tryd.underlying48 (by kernel_rfl) rfl (by omega)
/-- Texts as cells. -/
def sc (l : List ByteArray) : List Value := l.map Value.string
abbrev OwnT (w : World) (base : Nat) (v : Value) (l : List ByteArray) : Prop := w.ownsRow base 9 1 v l.length (sc l)
theorem own_snocT {w : World} {B : Nat} {v : Value} {l : List ByteArray} {s : ByteArray} (h : w.ownsRow B 9 1 v (l.length + 1) (sc l ++ [.string s])) : OwnT w B v (l ++ [s]) := by
  unfold OwnT; rw [List.length_append, List.length_singleton]; simpa [sc] using h
theorem str_cat (a : List UInt8) (b : List UInt8) : (⟨a.toArray⟩ : ByteArray) ++ ⟨b.toArray⟩ = ⟨(a ++ b).toArray⟩ := by
  apply ByteArray.ext; simp [ByteArray.append]
theorem join_two (x y : List UInt8) (r : List (List UInt8)) (sep : List UInt8) : Lib.join (x :: y :: r) sep = x ++ (sep ++ Lib.join (y :: r) sep) := by
  rw [Lib.join_cons, Lib.join_cons]; simp [Lib.joinTail]
theorem join_le (sep : List UInt8) (B : Nat) : ∀ l : List (List UInt8), (∀ x ∈ l, x.length ≤ B) → (Lib.join l sep).length ≤ l.length * (B + sep.length)
  | [], _ => by rw [Lib.join_nil]; simp
  | [x], h => by
    have := h x (by simp)
    rw [Lib.join_one]
    simp only [List.length_cons, List.length_nil]; omega
  | x :: y :: r, h => by
    have h1 := h x (by simp)
    have h2 := join_le sep B (y :: r) (fun z hz => h z (by simp [hz]))
    rw [join_two]
    simp only [List.length_append, List.length_cons] at h2 ⊢
    rw [Nat.add_mul (r.length + 1) 1]
    omega
/-- What is between, then brackets. -/
def rowT (sv : Vl → List UInt8) (l : List Vl) : List UInt8 := 40 :: (Lib.join (l.map sv) [44, 32] ++ [41])
abbrev SV (sv : Vl → List UInt8) (w : World) (x : Vl) : Prop := ∀ w', Ext w w' → Calls Tryd.prog 51 #[val x.1 x.2.1 x.2.2] w' fun e w'' => e = .returned (.string ⟨(sv x).toArray⟩) ∧ Ext w' w''
def Joins (w : World) (v : Value) (l : List ByteArray) (R : List UInt8) : Prop := Calls Tryd.prog 25 #[v, .string ⟨#[44, 32]⟩] w fun e w' => e = .returned (.string ⟨R.toArray⟩) ∧ Ext w w'
theorem join_own {w : World} {B : Nat} {v : Value} {l : List ByteArray} (h : OwnT w B v l) (hN : l.length ≤ 1000) (hlen : (Lib.join (l.map (·.data.toList)) [44, 32]).length ≤ 140737488355328) : Joins w v l (Lib.join (l.map (·.data.toList)) [44, 32]) := by
  by_cases h0 : l = []
  · subst h0
    rcases h.2 with ⟨rfl, _⟩ | ⟨g, cap, cur, rfl, _⟩
    · refine (Tryd.strings_Join_none none 0 ⟨#[44, 32]⟩ w).mono ?_
      rintro e w' ⟨rfl, rfl⟩
      exact ⟨rfl, Ext.refl _⟩
    · refine (Tryd.strings_Join_none (some ⟨g, 0, none⟩) cap ⟨#[44, 32]⟩ w).mono ?_
      rintro e w' ⟨rfl, rfl⟩
      exact ⟨rfl, Ext.refl _⟩
  · have hpos : 0 < l.length := List.length_pos_iff.2 h0
    rcases h.2 with ⟨rfl, hz⟩ | ⟨g, cap, cur, rfl, hb, hg, hn, hc, hcs, ht⟩
    · omega
    · refine (Tryd.strings_Join g 0 cap l ⟨#[44, 32]⟩ w (fun j x hx => ?_) (lt_of_block hg) (by omega) hn (by simpa using hlen)).mono ?_
      · have := h.cells (g := g) rfl j (.string x) (by simp [sc, hx])
        rw [add_plain] at this
        exact this
      · rintro e w' ⟨rfl, hB⟩
        exact ⟨by simp, hB⟩
set_option maxHeartbeats 4000000 in
set_option maxRecDepth 100000 in
theorem rowShow_c (sv : Vl → List UInt8) (l : List Vl) (v : Value) (w : World) (hl : Rw w [] v l) (hm : mayR l = true) (hb : ∀ x ∈ l, (sv x).length ≤ 200) (hsv : ∀ x ∈ l, SV sv w x) : Calls Tryd.prog 24 #[v] w fun e w' => e = .returned (.string ⟨(rowT sv l).toArray⟩) ∧ Ext w w' := by
  have h1 := hide (fun w' (hX : Ext w w') => rowMay_c l v w' (Sl.ext hl hX))
  rw [hm] at h1
  have hX0 := hide (Ext.refl w)
  have l8 := (mayR_iff.1 hm).1
  obtain ⟨A, cap, rfl, hlc, hlm, hat⟩ := rw_form hl
  unfold maxLen at hlm
  replace hat := hide hat
  have hJ := join_le [44, 32] 200 (l.map sv) (by intro x hx; obtain ⟨y, hy, rfl⟩ := List.mem_map.1 hx; exact hb y hy)
  rw [List.length_map] at hJ
  simp only [List.length_cons, List.length_nil] at hJ
  have hJ2 : (Lib.join (l.map sv) [44, 32]).length ≤ 1700 := by omega
  replace hb := hide hb
  replace hsv := hide hsv
  obtain ⟨R, hR⟩ : ∃ R, R = Lib.join (l.map sv) [44, 32] := ⟨_, rfl⟩
  rw [← hR] at hJ2
  have hT : Hid (rowT sv l = 40 :: (R ++ [41])) := by rw [hR]; rfl
  replace hR := hide hR
  clear hl hm hJ
  go_enter Tryd.func24, Tryd.ntmps24
  go_wp2_with (go_at_call 28; (with_reducible refine seq_gw (h1.out _ hX0.out) ?_); intro g)
  clear h1 hX0
  go_loopg [3, 11] l.length (fun gh vv i wr => ∃ (k : Nat), i = .int .i64 k ∧ k + gh = l.length ∧ OwnT wr w.heap.size vv ((l.take k).map fun x => ⟨(sv x).toArray⟩) ∧ Ext w wr)
  case atStart => exact ⟨0, rfl, by omega, World.ownsRow_nil _ _ _ _, g.grown⟩
  case round =>
    obtain ⟨k, rfl, hk, ho, hX⟩ := hrel
    clear g
    have hzX := hX.size
    by_cases hlt : k < l.length
    · obtain ⟨x, hx⟩ : ∃ x, l[k]? = some x := ⟨_, List.getElem?_eq_getElem hlt⟩
      obtain ⟨b, o, rfl, -, hb', c0, c1, c2⟩ := hat.out k x hx
      have k0 := cell_later hX c0
      have k1 := cell_later hX c1
      have k2 := cell_later hX c2
      have hbr : b < wr.heap.size := block_lt_of_cell k0
      have hsx := hide (hsv.out x (List.mem_of_getElem? hx))
      have hlen : ((l.take k).map fun x => (⟨(sv x).toArray⟩ : ByteArray)).length = k := by simp; omega
      have hnx := hide (show ((l.take k).map fun x => (⟨(sv x).toArray⟩ : ByteArray)) ++ [⟨(sv x).toArray⟩] = (l.take (k + 1)).map fun x => ⟨(sv x).toArray⟩ by rw [List.take_add_one, hx]; simp)
      replace hx := hide hx
      generalize hacc : ((l.take k).map fun x => (⟨(sv x).toArray⟩ : ByteArray)) = acc at *
      generalize hsx' : sv x = t at *
      replace hacc := hide hacc
      replace hsx' := hide hsx'
      have hak : acc.length ≤ 8 := by omega
      replace hlen := hide hlen
      have hsv' := hide (show ∀ w', Ext w w' → Calls Tryd.prog 51 #[val x.1 x.2.1 x.2.2] w' fun e w'' => e = .returned (.string ⟨t.toArray⟩) ∧ Ext w' w'' from fun w' hX => by rw [← hsx'.out]; exact hsx.out w' hX)
      clear hsx c0 c1 c2
      obtain ⟨xk, xn, xs⟩ := x
      go_wp2_with (first | (go_at_call 51; (with_reducible refine seq_gw (hsv'.out _ (hX.alloc _)) ?_); intro g) | (at_builtin; (refine wpl_app tStr rfl (.tmp 15) (.tmp 18) rfl rfl (own_ext (own_ext ho ((Ext.refl wr).alloc _)) (g.grown.alloc _)) rfl (src_one Tryd.underlying48 _ _ _ rfl) (by unfold maxLen; omega) (by omega) (by have := GW.size g; simp only [World.size_alloc] at this ⊢; omega) ?_; intro v2 w2 ho2 hg2 _)))
      go_roundg (l.length - (k + 1))
      case measure => omega
      case rel =>
        have ho3 : OwnT w2 w.heap.size v2 (acc ++ [⟨t.toArray⟩]) := own_snocT ho2
        rw [hnx.out] at ho3
        exact ⟨k + 1, by go_num, by have := hlen.out; omega, ho3, ext_grown (((hX.alloc _).trans g.grown).alloc _) hg2 (fun k hk => (ho.lt k hk).1)⟩
    · have hk' : k = l.length := by omega
      have hge : (l.length : Int) ≤ k := by omega
      rw [List.take_of_length_le (by omega)] at ho
      have hj := join_own ho (by rw [List.length_map]; omega) (by rw [List.map_map, show (fun x : ByteArray => x.data.toList) ∘ (fun x => (⟨(sv x).toArray⟩ : ByteArray)) = sv by funext x; simp, ← hR.out]; omega)
      rw [List.map_map, show (fun x : ByteArray => x.data.toList) ∘ (fun x => (⟨(sv x).toArray⟩ : ByteArray)) = sv by funext x; simp, ← hR.out] at hj
      unfold Joins at hj
      replace hj := hide hj
      have hRs : (⟨R.toArray⟩ : ByteArray).size ≤ 1700 := by show R.toArray.size ≤ 1700; simpa using hJ2
      have hcat := hide (show (⟨#[40]⟩ : ByteArray) ++ ⟨R.toArray⟩ ++ ⟨#[41]⟩ = ⟨(rowT sv l).toArray⟩ by rw [hT.out, str_cat [40] R, str_cat _ [41]]; simp)
      replace hk' := hide hk'
      generalize (⟨R.toArray⟩ : ByteArray) = J at *
      go_wp2_with (go_at_call 25; (with_reducible refine seq_gw hj.out ?_); intro g)
      go_returns
      rw [← hcat.out]
      exact ⟨rfl, hX.trans g.grown⟩
end Go.Proofs.YthidjngipkelcaaDoor
