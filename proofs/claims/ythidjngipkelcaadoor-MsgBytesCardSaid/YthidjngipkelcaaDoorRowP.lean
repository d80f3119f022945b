/-
  A helper of ours: no claim of its own. Layer 6 (row): values picked out of rows, on both sides.
-/
import Derived.Test.YthidjngipkelcaaDoorRowE
set_option linter.unusedVariables false
set_option linter.unusedSimpArgs false
namespace Go.Proofs.YthidjngipkelcaaDoor
open Go.RowKit
attribute [local go_sem] GW.cell GW.frozen In.eq_true In.le_true In.ne In.ne' In.ne_add In.ne_add' In.lt_add Upto.le_true Upto.le_add Upto.lt_add
theorem ic_form {w : World} {S : List Nat} {v : Value} {l : List Int} (h : Sl w S 1 v l.length (ic l)) : ∃ A cap, v = .slice A l.length cap ∧ l.length ≤ cap ∧ cap ≤ maxLen ∧
    ∀ (i : Nat) (x : Int), l[i]? = some x → ∃ b o, A = some ⟨b, o, none⟩ ∧ b ∉ S ∧ b < w.heap.size ∧ w.cell? ⟨b, o + i, none⟩ = some (.int .i64 x) := by
  obtain ⟨A, cap, rfl, h1, h2, h3, h4⟩ := h
  refine ⟨A, cap, rfl, h1, h2, fun i x hx => ?_⟩
  have hg : (ic l)[i]? = some (.int .i64 x) := by simp [ic, hx]
  rcases h4 with h4 | ⟨b, o, rfl, hb, hc⟩
  · rw [h4] at hg; cases hg
  · have c0 := hc _ _ hg
    exact ⟨b, o, rfl, hb, block_lt_of_cell c0, c0⟩
theorem src_val {P : Program} {tx e' : TypeId} (hk : P.underlying tx = some (.slice e')) (w : World) (x : Vl) (E : TypeId) : Src P 3 tx (.slice (some ⟨w.heap.size, 0, none⟩) 1 1) 1 (vc x) (w.alloc (.cells #[.int .i64 x.1, .int .i64 x.2.1, .string x.2.2] E)) :=
  Src.ofSlice _ hk _ 1 1 (vc x) (by simp [vc]) (fun j u hj => by
    have hj' : j < 3 := by
      have := (List.getElem?_eq_some_iff.1 hj).1
      simpa [vc] using this
    have hh := (Ob.new w E [.int .i64 x.1, .int .i64 x.2.1, .string x.2.2]).cell j hj
    rw [show (⟨w.heap.size, 0, none⟩ : Addr).add j = ⟨w.heap.size, j, none⟩ by rw [add_plain]; simp]
    exact hh) (by
    intro u hu
    exact rc_one [x] u (by simpa [rc] using hu))
/-- Values at columns: what is wrong, and the values. -/
def pkE (l : List Vl) : List Int → Int
  | [] => 0
  | c :: r => if c < 0 ∨ (l.length : Int) ≤ c then 3 else pkE l r
def pkV (l : List Vl) (cs : List Int) : List Vl := cs.flatMap fun c => (l[c.toNat]?).toList
def pickE (l : List Vl) (cs : List Int) : Int := if mayR l then (if 8 < cs.length then 6 else pkE l cs) else 2
def pickV (l : List Vl) (cs : List Int) : List Vl := if pickE l cs = 0 then pkV l cs else []
theorem pkV_snoc (l : List Vl) (cs : List Int) (c : Int) {x : Vl} (h : l[c.toNat]? = some x) : pkV l (cs ++ [c]) = pkV l cs ++ [x] := by
  simp [pkV, h]
theorem pkV_len (l : List Vl) (cs : List Int) : (pkV l cs).length ≤ cs.length := by
  induction cs with
  | nil => simp [pkV]
  | cons c r ih =>
    have e : pkV l (c :: r) = (l[c.toNat]?).toList ++ pkV l r := by simp [pkV]
    rw [e, List.length_append, List.length_cons]
    have : (l[c.toNat]?).toList.length ≤ 1 := by cases l[c.toNat]? <;> simp
    omega
theorem pkE_cons_bad (l : List Vl) (c : Int) (r : List Int) (h : c < 0 ∨ (l.length : Int) ≤ c) : pkE l (c :: r) = 3 := if_pos h
theorem pkE_cons_ok (l : List Vl) (c : Int) (r : List Int) (h : ¬ (c < 0 ∨ (l.length : Int) ≤ c)) : pkE l (c :: r) = pkE l r := if_neg h
end Go.Proofs.YthidjngipkelcaaDoor
