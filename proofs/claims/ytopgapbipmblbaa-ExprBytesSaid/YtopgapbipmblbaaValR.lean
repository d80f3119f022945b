/-
  A helper of ours: no claim of its own. Layer 5 (value): the next value that a reader has.
-/
import Derived.Test.YtopgapbipmblbaaValA
import Derived.Test.YtopgapbipmblbaaBinC
import Derived.Test.YtopgapbipmblbaaBinM
set_option linter.unusedVariables false
set_option linter.unusedSimpArgs false
namespace Go.Proofs.Ytopgapbipmblbaa
open Go.RowKit
attribute [local go_sem] GW.cell GW.frozen In.eq_true In.le_true In.ne In.ne' In.ne_add In.ne_add' In.lt_add Upto.le_true Upto.le_add Upto.lt_add
/-- What is wrong with the bytes of a value; what is left behind; what the value is. -/
def rdE : List UInt8 → Int
  | [] => 5
  | c :: r => if c.toNat = 1 then (numSt 10 r 0).2 else if c.toNat = 2 then (textSt 64 r 0).2 else 4
def rdS : List UInt8 → List UInt8 × Int
  | [] => ([], 5)
  | c :: r => if c.toNat = 1 then numSt 10 r 0 else if c.toNat = 2 then textSt 64 r 0 else (r, 0)
def rdV (l : List UInt8) : Vl :=
  if rdE l = 0 then (match l with
    | [] => (0, 0, ⟨#[]⟩)
    | c :: r => if c.toNat = 1 then (1, unz (numVal 10 r 0), ⟨#[]⟩) else (2, 0, ⟨(textVal 64 r 0).toArray⟩))
  else (0, 0, ⟨#[]⟩)
theorem textVal_le (r : List UInt8) : (textVal 64 r 0).length ≤ 64 := by
  unfold textVal
  split
  · rename_i h
    unfold textE at h
    rw [List.length_take]
    split at h
    · rename_i h1; exact absurd h h1
    · split at h
      · cases h
      · omega
  · simp
theorem textSt_err (r : List UInt8) : (textSt 64 r 0).2 = textE 64 r 0 := by
  unfold textSt
  split
  · rename_i h; exact h.symm
  · rw [if_pos rfl]
theorem Rdr.blt {w : World} {S : List Nat} {b : Nat} {st : List UInt8 × Int} (h : Rdr w S b st) : b < w.heap.size := by
  obtain ⟨_, _, v, hO, _⟩ := h
  exact hO.lt
abbrev zv : List Value := [.int .i64 0, .int .i64 0, .string ⟨#[]⟩]
theorem ob_zero (w : World) : Ob (w.alloc (.cells #[.int .i64 0, .int .i64 0, .string ⟨#[]⟩] 40)) w.heap.size 40 zv := Ob.new w _ zv
theorem fr_set3 {W w : World} {X : List Nat} {B : Nat} (h : Fr X W w) (hB : B ∈ X ∨ W.heap.size ≤ B) (u0 u1 u2 : Value) : Fr X W (((w.setCell ⟨B, 0, none⟩ u0).setCell ⟨B, 1, none⟩ u1).setCell ⟨B, 2, none⟩ u2) :=
  ((h.setCell _ _ hB).setCell _ _ hB).setCell _ _ hB
theorem rdr_set3 {w : World} {S : List Nat} {b B : Nat} {st : List UInt8 × Int} (h : Rdr w S b st) (hB : B ∈ S) (hne : b ≠ B) (u0 u1 u2 : Value) : Rdr (((w.setCell ⟨B, 0, none⟩ u0).setCell ⟨B, 1, none⟩ u1).setCell ⟨B, 2, none⟩ u2) S b st :=
  h.fr (S' := [B]) (fr_set3 (Fr.refl _ _) (.inl (by simp)) u0 u1 u2) (by simp; exact hne) (by simp; exact hB)
theorem Rdr.less {w : World} {S S' : List Nat} {b : Nat} {st : List UInt8 × Int} (h : Rdr w S b st) (hs : ∀ x, x ∈ S' → x ∈ S) (hb : b ∈ S') : Rdr w S' b st := h.more (fun x hx => .inl (hs x hx)) hb
theorem Rdr.front {w : World} {S : List Nat} {b : Nat} {st : List UInt8 × Int} (h : Rdr w S b st) : Rdr (w.alloc (.cells #[.int .i64 0, .int .i64 0, .string ⟨#[]⟩] 40)) (w.heap.size :: S) b st :=
  rdr_ext (h.more (fun x hx => by rcases List.mem_cons.1 hx with rfl | hx; exact .inr (Nat.le_refl _); exact .inl hx) (by simp [h.1])) ((Ext.refl w).alloc _)
theorem read_end {w w1 : World} {S : List Nat} {b : Nat} {st : List UInt8 × Int} (hR : Rdr w1 (w.heap.size :: S) b st) (hbS : b ∈ S) (hF : Fr [b] w w1) (hne : b ≠ w.heap.size) (u0 u1 u2 : Value) :
    Rdr (((w1.setCell ⟨w.heap.size, 0, none⟩ u0).setCell ⟨w.heap.size, 1, none⟩ u1).setCell ⟨w.heap.size, 2, none⟩ u2) S b st ∧ Fr [b] w (((w1.setCell ⟨w.heap.size, 0, none⟩ u0).setCell ⟨w.heap.size, 1, none⟩ u1).setCell ⟨w.heap.size, 2, none⟩ u2) :=
  ⟨(rdr_set3 hR (by simp) hne u0 u1 u2).less (fun x hx => by simp [hx]) hbS, fr_set3 hF (.inr (Nat.le_refl _)) u0 u1 u2⟩
/-- The next value. -/
def vl (a : Vl) : Value := val a.1 a.2.1 a.2.2
end Go.Proofs.Ytopgapbipmblbaa
