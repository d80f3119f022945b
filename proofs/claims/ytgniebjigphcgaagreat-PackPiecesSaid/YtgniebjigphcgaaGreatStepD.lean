/-
  A helper of ours: no claim of its own. Layer 9 (step): two functions at once, by the code.
-/
import Derived.Test.YtgniebjigphcgaaGreatStepE
set_option linter.unusedVariables false
set_option linter.unusedSimpArgs false
namespace Go.Proofs.YtgniebjigphcgaaGreat
open Go.RowKit
attribute [local go_sem] GW.cell GW.frozen In.eq_true In.le_true In.ne In.ne' In.ne_add In.ne_add' In.lt_add Upto.le_true Upto.le_add Upto.lt_add
attribute [-go_sem] sliced
attribute [local go_sem] sliced_eq
/-- The product of two numbers, one where the other is 0. -/
def addO (x y : Int) : Int := x + y
def mulO (x y : Int) : Int := x * y
def whO (x y : Int) : Int := if y = 0 then x else 0
theorem mul_small {x y : Int} (hx : -1073741824 ≤ x ∧ x ≤ 1073741824) (hy : -1073741824 ≤ y ∧ y ≤ 1073741824) : -1152921504606846976 ≤ x * y ∧ x * y ≤ 1152921504606846976 := by
  have h1 : x.natAbs ≤ 1073741824 := by omega
  have h2 : y.natAbs ≤ 1073741824 := by omega
  have h3 : (x * y).natAbs ≤ 1073741824 * 1073741824 := by rw [Int.natAbs_mul]; exact Nat.mul_le_mul h1 h2
  generalize x * y = z at *
  omega
def Small (op : Int → Int → Int) : Prop := ∀ x y, (-1073741824 ≤ x ∧ x ≤ 1073741824) → (-1073741824 ≤ y ∧ y ≤ 1073741824) → -1152921504606846976 ≤ op x y ∧ op x y ≤ 1152921504606846976
theorem small_add : Small addO := fun x y h1 h2 => by unfold addO; omega
theorem small_mul : Small mulO := fun x y h1 h2 => mul_small h1 h2
theorem small_wh : Small whO := fun x y h1 h2 => by unfold whO; split <;> omega
theorem js_pre {f1 f2 : List Jp} (h : mayJ (f1 ++ f2) = true) : -1073741824 ≤ js f1 ∧ js f1 ≤ 1073741824 := by
  have h1 := js_bound (K := 1048576) (by omega) (mayJ_net (mayJ_left h))
  have h2 := mayJ_len (mayJ_left h)
  omega
theorem pas_measure {f1 f2 g1 g2 : List Jp} {t : Int} (hf : mayJ (f1 ++ f2) = true) (hg : mayJ (g1 ++ g2) = true) (h0 : ¬ (f2 = [] ∧ g2 = [])) (ht : t = min (nxt f2) (nxt g2)) : (pasR f2 t).length + (pasR g2 t).length < f2.length + g2.length := by
  have a1 := nxt_le hf
  have a2 := nxt_le hg
  have l1 : (pasR f2 t).length ≤ f2.length := by have := congrArg List.length (pas_eq f2 t); rw [List.length_append] at this; omega
  have l2 : (pasR g2 t).length ≤ g2.length := by have := congrArg List.length (pas_eq g2 t); rw [List.length_append] at this; omega
  rcases f2 with _ | ⟨j, r⟩
  · rcases g2 with _ | ⟨k, s⟩
    · exact absurd ⟨rfl, rfl⟩ h0
    · have e : k.1 = t := by simp only [nxt] at ht a2; omega
      simp only [pasR, if_pos e, List.length_cons] at *; omega
  · by_cases e : j.1 = t
    · simp only [pasR, if_pos e, List.length_cons] at *; omega
    · rcases g2 with _ | ⟨k, s⟩
      · exfalso; simp only [nxt] at ht a1; omega
      · have e' : k.1 = t := by simp only [nxt] at ht; omega
        simp only [pasR, if_pos e', List.length_cons] at *; omega
theorem jw_tail {w : World} {S : List Nat} {A : Option Addr} {cap : Nat} {x : Jp} {p : List Jp} (h : Jw w S (.slice A (p.length + 1) cap) (x :: p)) : Jw w S (.slice (cutA A 1 cap 2) p.length (cap - 1)) p := by
  obtain ⟨_, c, e, h1, h2, h3, h4⟩ := id h
  simp only [Value.slice.injEq] at e
  obtain ⟨rfl, -, rfl⟩ := e
  have hc := h.cut 1 (p.length + 1) cap (by omega) (by simp) (by simpa using h1) (Nat.le_refl _)
  rw [sliced_eq, List.take_of_length_le (by rw [ps_length]; simp)] at hc
  exact hc
end Go.Proofs.YtgniebjigphcgaaGreat
