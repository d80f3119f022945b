/-
  A helper of ours: no claim of its own. Layer 3 (bin): the document's own reader.
-/
import Derived.Test.YtopgapbipmblbaaBinA
import Derived.Test.YtopgapbipmblbaaBinS
import Derived.WalkSpells
import Derived.Deep.LoopGhost
set_option linter.unusedVariables false
set_option linter.unusedSimpArgs false
namespace Go.Proofs.Ytopgapbipmblbaa
open Go.RowKit
attribute [local go_sem] GW.cell GW.frozen In.eq_true In.le_true In.ne In.ne' In.ne_add In.ne_add' In.lt_add Upto.le_true Upto.le_add Upto.lt_add
attribute [-go_sem] sliced
attribute [local go_sem] sliced_eq

def manyN (most : Nat) (l : List UInt8) : Nat := if parE most l = 0 then lead l + 1 else 0
theorem manyN_no {most : Nat} {l : List UInt8} (h : parE most l = 4 ∨ parE most l = 5) : manyN most l = 0 := by unfold manyN; rw [if_neg (by omega)]
theorem gval_from {l : List UInt8} {n k : Nat} {c : UInt8} (hk : k < n) (hc : l[k]? = some c) : gval ((l.take n).drop k) = c.toNat % 128 + 128 * gval ((l.take n).drop (k + 1)) := by
  have h : (l.take n)[k]? = some c := by rw [List.getElem?_take, if_pos hk]; exact hc
  have hl : k < (l.take n).length := by
    rcases Nat.lt_or_ge k (l.take n).length with h2 | h2
    · exact h2
    · rw [List.getElem?_eq_none h2] at h; cases h
  rw [List.drop_eq_getElem_cons hl]
  rw [List.getElem?_eq_getElem hl] at h
  cases h
  rfl
theorem gval_mono : ∀ (l : List UInt8) (k : Nat), gval (l.drop k) ≤ gval l
  | [], k => by simp
  | c :: r, 0 => by simp
  | c :: r, k + 1 => by have := gval_mono r k; simp only [List.drop_succ_cons, gval]; omega
theorem numVal_in (most : Nat) (hm : most = 9 ∨ most = 10) (l : List UInt8) (e : Int) : (numVal most l e : Int) ≤ 18446744073709551615 ∧ (most = 9 → (numVal most l e : Int) ≤ 9223372036854775807) := by
  unfold numVal
  split
  · rcases hm with rfl | rfl
    · have := parV_nine l; exact ⟨by omega, fun _ => this⟩
    · exact ⟨parV_ten l, fun h => absurd h (by decide)⟩
  · exact ⟨by decide, fun _ => by decide⟩
end Go.Proofs.Ytopgapbipmblbaa
