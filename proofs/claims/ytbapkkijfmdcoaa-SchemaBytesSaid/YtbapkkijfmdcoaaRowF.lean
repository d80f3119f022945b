/-
  A helper of ours: no claim of its own. Layer 6 (row): a row written by the code, from how its values are.
-/
import Derived.Test.YtbapkkijfmdcoaaRowE
import Derived.Test.YtbapkkijfmdcoaaShelf
set_option linter.unusedVariables false
set_option linter.unusedSimpArgs false
namespace Go.Proofs.Ytbapkkijfmdcoaa
open Go.RowKit
attribute [local go_sem] GW.cell GW.frozen In.eq_true In.le_true In.ne In.ne' In.ne_add In.ne_add' In.lt_add Upto.le_true Upto.le_add Upto.lt_add
theorem tStr : ElemT Try.prog 74 9 (.string ⟨#[]⟩) 1 16 := ElemT.mk' Try.underlying74 (by kernel_rfl) rfl (by omega)
/-- Texts as cells. -/
def sc (l : List ByteArray) : List Value := l.map Value.string
abbrev OwnT (w : World) (base : Nat) (v : Value) (l : List ByteArray) : Prop := w.ownsRow base 9 1 v l.length (sc l)
theorem own_snocT {w : World} {B : Nat} {v : Value} {l : List ByteArray} {s : ByteArray} (h : w.ownsRow B 9 1 v (l.length + 1) (sc l ++ [.string s])) : OwnT w B v (l ++ [s]) := by
  unfold OwnT; rw [List.length_append, List.length_singleton]; simpa [sc] using h
theorem str_cat (a : List UInt8) (b : List UInt8) : (⟨a.toArray⟩ : ByteArray) ++ ⟨b.toArray⟩ = ⟨(a ++ b).toArray⟩ := by
  apply ByteArray.ext; simp [ByteArray.append]
theorem join_two (x y : List UInt8) (r : List (List UInt8)) (sep : List UInt8) : Lib.join (x :: y :: r) sep = x ++ (sep ++ Lib.join (y :: r) sep) := by
  rw [Lib.join_cons, Lib.join_cons]; simp [Lib.joinTail]
theorem join_le (sep : List UInt8) (B : Nat) : ∀ l : List (List UInt8), (∀ x ∈ l, x.length ≤ B) → (Lib.join l sep).length ≤ l.length * (B + sep.length)
  | [], _ => by rw [Lib.join_nil]; simp
  | [x], h => by
    have := h x (by simp)
    rw [Lib.join_one]
    simp only [List.length_cons, List.length_nil]; omega
  | x :: y :: r, h => by
    have h1 := h x (by simp)
    have h2 := join_le sep B (y :: r) (fun z hz => h z (by simp [hz]))
    rw [join_two]
    simp only [List.length_append, List.length_cons] at h2 ⊢
    rw [Nat.add_mul (r.length + 1) 1]
    omega
/-- What is between, then brackets. -/
def rowT (sv : Vl → List UInt8) (l : List Vl) : List UInt8 := 40 :: (Lib.join (l.map sv) [44, 32] ++ [41])
def Joins (w : World) (v : Value) (l : List ByteArray) (R : List UInt8) : Prop := Calls Try.prog 56 #[v, .string ⟨#[44, 32]⟩] w fun e w' => e = .returned (.string ⟨R.toArray⟩) ∧ Ext w w'
theorem join_own {w : World} {B : Nat} {v : Value} {l : List ByteArray} (h : OwnT w B v l) (hN : l.length ≤ 1000) (hlen : (Lib.join (l.map (·.data.toList)) [44, 32]).length ≤ 140737488355328) : Joins w v l (Lib.join (l.map (·.data.toList)) [44, 32]) := by
  by_cases h0 : l = []
  · subst h0
    rcases h.2 with ⟨rfl, _⟩ | ⟨g, cap, cur, rfl, _⟩
    · refine (Try.strings_Join_none none 0 ⟨#[44, 32]⟩ w).mono ?_
      rintro e w' ⟨rfl, rfl⟩
      exact ⟨rfl, Ext.refl _⟩
    · refine (Try.strings_Join_none (some ⟨g, 0, none⟩) cap ⟨#[44, 32]⟩ w).mono ?_
      rintro e w' ⟨rfl, rfl⟩
      exact ⟨rfl, Ext.refl _⟩
  · have hpos : 0 < l.length := List.length_pos_iff.2 h0
    rcases h.2 with ⟨rfl, hz⟩ | ⟨g, cap, cur, rfl, hb, hg, hn, hc, hcs, ht⟩
    · omega
    · refine (Try.strings_Join g 0 cap l ⟨#[44, 32]⟩ w (fun j x hx => ?_) (lt_of_block hg) (by omega) hn (by simpa using hlen)).mono ?_
      · have := h.cells (g := g) rfl j (.string x) (by simp [sc, hx])
        rw [add_plain] at this
        exact this
      · rintro e w' ⟨rfl, hB⟩
        exact ⟨by simp, hB⟩
end Go.Proofs.Ytbapkkijfmdcoaa
