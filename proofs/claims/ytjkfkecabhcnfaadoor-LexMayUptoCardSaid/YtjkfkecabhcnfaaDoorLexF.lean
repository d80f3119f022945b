/-
  A helper of ours: no claim of its own. Layer 19 (lex): tokens joined, by the code.
-/
import Derived.Test.YtjkfkecabhcnfaaDoorLexE
set_option linter.unusedVariables false
set_option linter.unusedSimpArgs false
namespace Go.Proofs.YtjkfkecabhcnfaaDoor
open Go.RowKit
attribute [local go_sem] GW.cell GW.frozen In.eq_true In.le_true In.ne In.ne' In.ne_add In.ne_add' In.lt_add Upto.le_true Upto.le_add Upto.lt_add
theorem tStrL : ElemT Tryd.prog 45 9 (.string ⟨#[]⟩) 1 16 := ElemT.mk' Tryd.underlying45 (by kernel_rfl) rfl (by omega)
/-- Texts as cells. -/
def sct (l : List (List UInt8)) : List Value := l.map fun a => Value.string ⟨a.toArray⟩
theorem sct_len (l : List (List UInt8)) : (sct l).length = l.length := by simp [sct]
abbrev OwnS (w : World) (base : Nat) (v : Value) (l : List (List UInt8)) : Prop := w.ownsRow base 9 1 v l.length (sct l)
theorem own_snocS {w : World} {B : Nat} {v : Value} {l : List (List UInt8)} {a : List UInt8} (h : w.ownsRow B 9 1 v (l.length + 1) (sct l ++ [.string ⟨a.toArray⟩])) : OwnS w B v (l ++ [a]) := by
  unfold OwnS; rw [List.length_append, List.length_singleton]; simpa [sct] using h
theorem src_str {P : Program} {tx e' : TypeId} (hk : P.underlying tx = some (.slice e')) (w : World) (s : ByteArray) (E : TypeId) (B : Nat) (hB : B = w.heap.size) : Src P 1 tx (.slice (some ⟨B, 0, none⟩) 1 1) 1 [.string s] (w.alloc (.cells #[.string s] E)) := by
  subst hB; exact src_one hk w _ E rfl
theorem join_two (x y : List UInt8) (r : List (List UInt8)) (sep : List UInt8) : Lib.join (x :: y :: r) sep = x ++ (sep ++ Lib.join (y :: r) sep) := by
  rw [Lib.join_cons, Lib.join_cons]; simp [Lib.joinTail]
theorem joinB_lib : ∀ l : List (List UInt8), Lib.join l [32] = joinB l
  | [] => rfl
  | [a] => by rw [Lib.join_one]; rfl
  | a :: b :: r => by rw [join_two, joinB_lib (b :: r)]; rfl
theorem join_own {w : World} {B : Nat} {v : Value} {l : List (List UInt8)} (h : OwnS w B v l) (hN : l.length ≤ 140737488355328) (hlen : (joinB l).length ≤ 140737488355328) : Calls Tryd.prog 22 #[v, .string ⟨#[32]⟩] w fun e w' => e = .returned (.string ⟨(joinB l).toArray⟩) ∧ Ext w w' := by
  by_cases h0 : l = []
  · subst h0
    rcases h.2 with ⟨rfl, _⟩ | ⟨g, cap, cur, rfl, _⟩
    · refine (Tryd.strings_Join_none none 0 ⟨#[32]⟩ w).mono ?_
      rintro e w' ⟨rfl, rfl⟩
      exact ⟨rfl, Ext.refl _⟩
    · refine (Tryd.strings_Join_none (some ⟨g, 0, none⟩) cap ⟨#[32]⟩ w).mono ?_
      rintro e w' ⟨rfl, rfl⟩
      exact ⟨rfl, Ext.refl _⟩
  · have hpos : 0 < l.length := List.length_pos_iff.2 h0
    have em : (l.map fun a => (⟨a.toArray⟩ : ByteArray)).map (·.data.toList) = l := by
      rw [List.map_map]; conv => rhs; rw [← List.map_id l]
      congr 1
    have el : (l.map fun a => (⟨a.toArray⟩ : ByteArray)).length = l.length := by simp
    rcases h.2 with ⟨rfl, hz⟩ | ⟨g, cap, cur, rfl, hb, hg, hn, hc, hcs, ht⟩
    · omega
    · have hj := Tryd.strings_Join g 0 cap (l.map fun a => (⟨a.toArray⟩ : ByteArray)) ⟨#[32]⟩ w (fun j x hx => by
        rw [List.getElem?_map] at hx
        obtain ⟨a, ha, rfl⟩ := Option.map_eq_some_iff.1 hx
        have := h.cells (g := g) rfl j (.string ⟨a.toArray⟩) (by simp [sct, ha])
        rw [add_plain] at this
        exact this) (lt_of_block hg) (by omega) (by omega) (by rw [em]; rw [show (⟨#[32]⟩ : ByteArray).data.toList = [32] from rfl, joinB_lib]; exact hlen)
      rw [em, el, show (⟨#[32]⟩ : ByteArray).data.toList = [32] from rfl, joinB_lib] at hj
      exact hj
set_option maxHeartbeats 8000000 in
set_option maxRecDepth 100000 in
theorem join_c (l : List Tk) (v : Value) (w : World) (h : Tw w [] v l) (hN : l.length ≤ 4398046511104) (hlen : (joinB (l.map (·.2))).length ≤ 140737488355328) : Calls Tryd.prog 13 #[v] w fun e w' => e = .returned (.string ⟨(joinB (l.map (·.2))).toArray⟩) ∧ Ext w w' := by
  obtain ⟨A, cap, rfl, hl, hm, hat⟩ := tw_form h
  replace hat := hide hat
  replace hlen := hide hlen
  obtain ⟨R, hR⟩ : ∃ R, R = joinB (l.map (·.2)) := ⟨_, rfl⟩
  rw [← hR] at hlen ⊢
  replace hR := hide hR
  obtain ⟨n, hn⟩ : ∃ n, n = l.length := ⟨_, rfl⟩
  rw [← hn] at hl hN ⊢
  replace hn := hide hn
  clear h hm
  go_enter Tryd.func13, Tryd.ntmps13
  go_wp2_with fail
  go_loopg [3, 8] n (fun gh tv iv wr => ∃ (k : Nat), iv = .int .i64 k ∧ k + gh = n ∧ OwnS wr w.heap.size tv ((l.take k).map (·.2)) ∧ Ext w wr)
  case atStart => exact ⟨0, rfl, by omega, (by rw [List.take_zero]; exact World.ownsRow_nil _ _ _ _), Ext.refl w⟩
  case round =>
    obtain ⟨k, rfl, hk, ho, hX⟩ := hrel
    have hzX := hX.size
    by_cases hlt : k < n
    · obtain ⟨x, hx⟩ : ∃ x, l[k]? = some x := ⟨_, List.getElem?_eq_getElem (by have := hn.out; omega)⟩
      obtain ⟨b, o, rfl, -, hb, c0, c1⟩ := hat.out k x hx
      have k0 := cell_later' hX c0
      have k1 := cell_later' hX c1
      have hbr : b < wr.heap.size := block_lt_of_cell k0
      haveI : In b wr := ⟨hbr⟩
      have hlk : ((l.take k).map (·.2)).length = k := by rw [List.length_map, List.length_take]; have := hn.out; omega
      have hsn : ((l.take k).map (·.2)) ++ [x.2] = (l.take (k + 1)).map (·.2) := by rw [List.take_add_one, hx]; simp
      replace hsn := hide hsn
      obtain ⟨xk, xs⟩ := x
      simp only at k0 k1 hsn
      obtain ⟨sx, hsx⟩ : ∃ sx : ByteArray, sx = ⟨xs.toArray⟩ := ⟨_, rfl⟩
      rw [← hsx] at k1
      replace hsx := hide hsx
      obtain ⟨M, hM⟩ : ∃ M, M = (l.take k).map (·.2) := ⟨_, rfl⟩
      rw [← hM] at ho hlk hsn
      clear c0 c1 hat hx hM
      go_wp2_with (first | (at_builtin; (refine wpl_app tStrL rfl (.tmp 12) (.tmp 15) rfl rfl (own_ext ho (((Ext.refl wr).alloc _).alloc _)) rfl (src_str Tryd.underlying45 (wr.alloc _) sx _ _ (by simp)) (by unfold maxLen; omega) (by omega) (by simp only [World.size_alloc]; omega) ?_; intro v2 w2 ho2 hg2 _)))
      go_roundg (n - (k + 1))
      case measure => omega
      case rel => exact ⟨k + 1, by go_num, by omega, (by rw [hsx.out] at ho2; have := own_snocS ho2; rw [hsn.out] at this; exact this), ext_grown ((hX.alloc _).alloc _) hg2 (fun k hk => (ho.lt k hk).1)⟩
    · have hge : (n : Int) ≤ k := by omega
      rw [List.take_of_length_le (by have := hn.out; omega)] at ho
      have hj := hide (join_own ho (by rw [List.length_map]; have := hn.out; omega) (by have := hlen.out; rw [hR.out] at this; exact this))
      rw [← hR.out] at hj
      clear hat hlt
      go_wp2_with (go_at_call 22; (with_reducible refine seq_gw hj.out ?_); intro g)
      go_returns
      exact ⟨rfl, hX.trans g.grown⟩
end Go.Proofs.YtjkfkecabhcnfaaDoor
