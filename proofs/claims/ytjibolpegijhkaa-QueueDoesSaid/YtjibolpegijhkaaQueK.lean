/-
  A helper of ours: no claim of its own. Layer 15 (queue): what the laws ask besides.
-/
import Derived.Test.YtjibolpegijhkaaQueL
import Derived.Test.YtjibolpegijhkaaStepR
set_option linter.unusedVariables false
set_option linter.unusedSimpArgs false
namespace Go.Proofs.Ytjibolpegijhkaa
open Go.RowKit
theorem whF_le (b : Int) (L : List Jp) : ∀ (f k : Nat), whF b L f k ≤ k + f
  | 0, k => Nat.le_refl _
  | f + 1, k => by
    unfold whF
    split
    · have := whF_le b L f (k + 1); omega
    · omega
theorem whN_le (b : Int) (L : List Jp) : whN b L ≤ L.length := by have := whF_le b L L.length 0; unfold whN; omega
theorem own_grown {w w' : World} {base e size n : Nat} {v : Value} {xs : List Value} {row : Option Nat} (h : w.ownsRow base e size v n xs) (hg : w.grownBy w' row) (hne : ∀ x, v.ownBlock = some x → row ≠ some x) : w'.ownsRow base e size v n xs :=
  ⟨h.1, h.2.imp id fun ⟨g, cap, cur, e', hb, hgg, hr⟩ => ⟨g, cap, cur, e', hb, (hg.block g (lt_of_block hgg) (fun e => hne g (by rw [e']; rfl) e.symm)).trans hgg, hr⟩⟩
theorem eql_jmp (a b c d : Int) (w : World) : (binOp .eql 27 (jm (a, b)) (jm (c, d))).run Try.prog w = .ok (.bool (a == c && b == d)) w := by
  by_cases h1 : a = c <;> by_cases h2 : b = d <;> simp [go_sem, h1, h2]
theorem eql_jsame (x : Jp) (w : World) : (binOp .eql 27 (jm x) (jm x)).run Try.prog w = .ok (.bool true) w := by
  rw [eql_jmp]; simp
theorem eql_jother {x y : Jp} (h : ¬ x = y) (w : World) : (binOp .eql 27 (jm x) (jm y)).run Try.prog w = .ok (.bool false) w := by
  rw [eql_jmp]
  congr 2
  rw [← Bool.not_eq_true]
  intro e
  simp only [Bool.and_eq_true, beq_iff_eq] at e
  exact h (Prod.ext e.1 e.2)
end Go.Proofs.Ytjibolpegijhkaa
