/-
  A helper of ours: no claim of its own. Layer 9 (step): the library's searches at jumps; step functions, on both sides; copies.
-/
import Derived.Test.YtjibolpegijhkaaStepA
set_option linter.unusedVariables false
set_option linter.unusedSimpArgs false
namespace Go.Proofs.Ytjibolpegijhkaa
open Go.RowKit
attribute [local go_sem] GW.cell GW.frozen In.eq_true In.le_true In.ne In.ne' In.ne_add In.ne_add' In.lt_add Upto.le_true Upto.le_add Upto.lt_add
/-- The first place from k on that holds such a one, or -1. -/
def jidxP (p : Jp → Bool) : Nat → List Jp → Int
  | _, [] => -1
  | k, x :: r => if p x then k else jidxP p (k + 1) r
theorem jidxP_ge (p : Jp → Bool) : ∀ (k : Nat) (l : List Jp), decide ((0 : Int) ≤ jidxP p k l) = l.any p
  | _, [] => rfl
  | k, x :: r => by
    rw [List.any_cons]
    cases h : p x
    · have e : jidxP p k (x :: r) = jidxP p (k + 1) r := by simp [jidxP, h]
      rw [e, Bool.false_or]; exact jidxP_ge p (k + 1) r
    · have e : jidxP p k (x :: r) = (k : Int) := by simp [jidxP, h]
      rw [e]; simp
theorem wrapN {q : Nat} (h : q < 9223372036854775808) : IntKind.i64.wrap (q : Int) = q := by
  simp [IntKind.wrap, IntKind.bits, IntKind.signed]; omega
theorem mayJ_of_take {l : List Jp} {k : Nat} (h : mayJ (l.take k) = false) : mayJ l = false := by
  cases hm : mayJ l
  · rfl
  · rw [← List.take_append_drop k l] at hm
    rw [mayJ_left hm] at h; cases h
theorem mayJ_bad {l : List Jp} {k : Nat} {x : Jp} (hx : l[k]? = some x) (h : okJ x = false) : mayJ l = false := by
  cases hm : mayJ l
  · rfl
  · rw [(mayJ_iff.1 hm).2.1 x (List.mem_of_getElem? hx)] at h; cases h
theorem mayJ_desc {l : List Jp} {q : Nat} {x y : Jp} (hy : l[q]? = some y) (hx : l[q + 1]? = some x) (h : x.1 ≤ y.1) : mayJ l = false := by
  cases hm : mayJ l
  · rfl
  · obtain ⟨h1, e1⟩ := List.getElem?_eq_some_iff.1 hy
    obtain ⟨h2, e2⟩ := List.getElem?_eq_some_iff.1 hx
    have := List.pairwise_iff_getElem.1 (mayJ_iff.1 hm).2.2 q (q + 1) h1 h2 (by omega)
    rw [e1, e2] at this; omega
theorem mayJ_more {l : List Jp} {k : Nat} {x : Jp} (hn : l.length ≤ 1024) (ih : mayJ (l.take k) = true) (hx : l[k]? = some x) (hok : okJ x = true) (hl : ∀ q y, k = q + 1 → l[q]? = some y → y.1 < x.1) : mayJ (l.take (k + 1)) = true := by
  obtain ⟨_, h2, h3⟩ := mayJ_iff.1 ih
  refine mayJ_iff.2 ⟨by rw [List.length_take]; omega, fun j hj => ?_, ?_⟩
  · rw [take_snoc hx] at hj
    rcases List.mem_append.1 hj with hj | hj
    · exact h2 j hj
    · simp only [List.mem_singleton] at hj; rw [hj]; exact hok
  · rw [take_snoc hx]
    refine List.pairwise_append.2 ⟨h3, by simp, fun a ha b hb => ?_⟩
    simp only [List.mem_singleton] at hb; subst hb
    rcases k with _ | q
    · simp at ha
    · have hq : q < l.length := by have := (List.getElem?_eq_some_iff.1 hx).1; omega
      have hy := hl q l[q] rfl (List.getElem?_eq_getElem hq)
      rw [take_snoc (List.getElem?_eq_getElem hq)] at ha h3
      rcases List.mem_append.1 ha with ha | ha
      · have := (List.pairwise_append.1 h3).2.2 a ha l[q] (by simp); omega
      · simp only [List.mem_singleton] at ha; rw [ha]; exact hy
end Go.Proofs.Ytjibolpegijhkaa
