/-
  A helper of ours: no claim of its own. Layer 7 (schema): schemas one behind the other, on both sides.
-/
import Derived.Test.YtopgapbipmblbaaSchF
import Derived.Lib.AppendZerosOnto
import Derived.Lib.LazyBuf
import Derived.WalkLawsBesides
set_option linter.unusedVariables false
set_option linter.unusedSimpArgs false
namespace Go.Proofs.Ytopgapbipmblbaa
open Go.RowKit
attribute [local go_sem] GW.cell GW.frozen In.eq_true In.le_true In.ne In.ne' In.ne_add In.ne_add' In.lt_add Upto.le_true Upto.le_add Upto.lt_add
theorem tCol : ElemT Try.prog 47 63 (.agg #[.string ⟨#[]⟩, .int .i64 0]) 2 24 := ElemT.mk' Try.underlying47 (by kernel_rfl) rfl (by omega)
theorem own_appC {w : World} {B : Nat} {v : Value} {l m : List Cl} (h : w.ownsRow B 63 2 v (l.length + m.length) (cl l ++ cl m)) : OwnC w B v (l ++ m) := by
  unfold OwnC; rw [List.length_append, cl_append]; exact h
theorem own_cw {w : World} {B : Nat} {S : List Nat} {v : Value} {l : List Cl} (h : OwnC w B v l) (hs : ∀ b, b ∈ S → b < B) : Cw w S v l := Sl.own h hs
/-- Schemas one behind the other: what is wrong, and the schema. -/
def joinSE (l m : List Cl) : Int := if mayS l && mayS m then (if 8 < l.length + m.length then 6 else if apartB (l ++ m) then 0 else 9) else 17
def joinSV (l m : List Cl) : List Cl := if joinSE l m = 0 then l ++ m else []
theorem joinS_no {l m : List Cl} (h : (mayS l && mayS m) = false) : joinSE l m = 17 ∧ joinSV l m = [] := by
  have e : joinSE l m = 17 := by unfold joinSE; rw [h]; rfl
  exact ⟨e, by unfold joinSV; rw [e, if_neg (by decide)]⟩
theorem joinS_long {l m : List Cl} (h : (mayS l && mayS m) = true) (h8 : 8 < l.length + m.length) : joinSE l m = 6 ∧ joinSV l m = [] := by
  have e : joinSE l m = 6 := by unfold joinSE; rw [if_pos h, if_pos h8]
  exact ⟨e, by unfold joinSV; rw [e, if_neg (by decide)]⟩
theorem joinS_twice {l m : List Cl} (h : (mayS l && mayS m) = true) (h8 : l.length + m.length ≤ 8) (ha : apartB (l ++ m) = false) : joinSE l m = 9 ∧ joinSV l m = [] := by
  have e : joinSE l m = 9 := by unfold joinSE; rw [if_pos h, if_neg (by omega), ha]; rfl
  exact ⟨e, by unfold joinSV; rw [e, if_neg (by decide)]⟩
theorem joinS_ok {l m : List Cl} (h : (mayS l && mayS m) = true) (h8 : l.length + m.length ≤ 8) (ha : apartB (l ++ m) = true) : joinSE l m = 0 ∧ joinSV l m = l ++ m := by
  have e : joinSE l m = 0 := by unfold joinSE; rw [if_pos h, if_neg (by omega), ha]; rfl
  exact ⟨e, by unfold joinSV; rw [if_pos e]⟩
theorem mayS_join {l m : List Cl} (hl : mayS l = true) (hm : mayS m = true) (h8 : l.length + m.length ≤ 8) : mayS (l ++ m) = apartB (l ++ m) := by
  obtain ⟨⟨h1, _⟩, h2, _⟩ := mayS_iff.1 hl
  obtain ⟨_, h3, _⟩ := mayS_iff.1 hm
  have ha : (l ++ m).all okC = true := by
    rw [List.all_eq_true]
    intro c hc
    rcases List.mem_append.1 hc with hc | hc
    · exact h2 c hc
    · exact h3 c hc
  unfold mayS
  rw [ha, decide_eq_true (by rw [List.length_append]; omega), Bool.true_and, Bool.true_and]
end Go.Proofs.Ytopgapbipmblbaa
