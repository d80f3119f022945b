/-
  A helper of ours: no claim of its own. Layer 24 (multi): lists only: what Put keeps, and what another Put undoes.
-/
import Derived.Test.YtnneicdphlidhaaMulJ
set_option linter.unusedVariables false
set_option linter.unusedSimpArgs false
namespace Go.Proofs.Ytnneicdphlidhaa
open Go.RowKit
def sumT : List Tg → Int
  | [] => 0
  | p :: r => p.2 + sumT r
theorem sumT_app (a b : List Tg) : sumT (a ++ b) = sumT a + sumT b := by
  induction a with
  | nil => simp [sumT]
  | cons p r ih => rw [List.cons_append, sumT, sumT, ih]; omega
/-- What is always so of things and the count. -/
structure Good (l : List Tg) (c : Int) : Prop where
  rise : RiseT l
  pos : ∀ x ∈ l, 1 ≤ x.2
  sum : c = sumT l
  le : c ≤ 1048576
theorem len_sum : ∀ (l : List Tg), (∀ x ∈ l, 1 ≤ x.2) → (l.length : Int) ≤ sumT l
  | [], _ => by simp [sumT]
  | p :: r, h => by
    have h1 := h p (by simp)
    have h2 := len_sum r fun x hx => h x (by simp [hx])
    rw [sumT, List.length_cons]
    omega
theorem mem_sum : ∀ (l : List Tg), (∀ x ∈ l, 1 ≤ x.2) → ∀ x ∈ l, x.2 ≤ sumT l
  | p :: r, h, x, hx => by
    have h1 := h p (by simp)
    have h2 := len_sum r fun x hx => h x (by simp [hx])
    rw [sumT]
    rcases List.mem_cons.1 hx with rfl | hx
    · omega
    · have := mem_sum r (fun x hx => h x (by simp [hx])) x hx
      omega
theorem Good.len {l : List Tg} {c : Int} (h : Good l c) : l.length ≤ 1048576 := by have := len_sum l h.pos; have := h.sum; have := h.le; omega
theorem Good.nonneg {l : List Tg} {c : Int} (h : Good l c) : 0 ≤ c ∧ c ≤ 1048576 := ⟨by have := len_sum l h.pos; have := h.sum; omega, h.le⟩
theorem Good.cop {l : List Tg} {c : Int} (h : Good l c) : ∀ x ∈ l, 0 ≤ x.2 ∧ x.2 ≤ 1048576 := fun x hx => by have := h.pos x hx; have := mem_sum l h.pos x hx; have := h.sum; have := h.le; omega
theorem Good.ne {l : List Tg} {c : Int} (h : Good l c) : ¬ c = 0 → l ≠ [] := fun h0 e => by subst e; exact h0 h.sum
/-- Where a number stands in things that rise. -/
theorem dec_at {k : Int} {l : List Tg} (hr : RiseT l) : ∃ a r, l = a ++ r ∧ ltN k l = a.length ∧ (∀ x ∈ a, x.1 < k) ∧
    ((∃ n r', r = (k, n) :: r' ∧ ofT k l = n ∧ fdB k l = true ∧ ∀ x ∈ r', k < x.1) ∨ (ofT k l = 0 ∧ fdB k l = false ∧ ∀ x ∈ r, k < x.1)) := by
  refine ⟨l.take (ltN k l), l.drop (ltN k l), (List.take_append_drop _ _).symm, by rw [List.length_take, Nat.min_eq_left (ltN_le k l)], fun x hx => ?_, ?_⟩
  · obtain ⟨i, hi⟩ := List.mem_iff_getElem?.1 hx
    rw [List.getElem?_take] at hi
    by_cases h : i < ltN k l
    · rw [if_pos h] at hi; exact ltN_lt k l i x hi h
    · rw [if_neg h] at hi; cases hi
  · have hrd : RiseT (l.drop (ltN k l)) := List.Pairwise.drop hr
    have hge : ∀ x ∈ l.drop (ltN k l), k ≤ x.1 := fun x hx => by
      obtain ⟨i, hi⟩ := List.mem_iff_getElem?.1 hx
      rw [List.getElem?_drop] at hi
      exact ltN_ge k l hr _ x hi (by omega)
    have h0 : l[ltN k l]? = (l.drop (ltN k l))[0]? := by rw [List.getElem?_drop, Nat.add_zero]
    cases hd : l.drop (ltN k l) with
    | nil =>
      rw [hd] at h0
      have hf : fdB k l = false := by unfold fdB; rw [h0]; rfl
      exact .inr ⟨by unfold ofT; rw [hf]; rfl, hf, by simp⟩
    | cons p r' =>
      rw [hd] at h0 hrd hge
      have h0' : l[ltN k l]? = some p := by rw [h0]; rfl
      obtain ⟨hp1, hp2⟩ := List.pairwise_cons.1 hrd
      by_cases hk : p.1 = k
      · have hf : fdB k l = true := by unfold fdB; rw [h0']; simp [hk]
        refine .inl ⟨p.2, r', by rw [← hk], by unfold ofT; rw [if_pos hf, h0'], hf, fun x hx => by have := hp1 x hx; omega⟩
      · have hf : fdB k l = false := by unfold fdB; rw [h0']; simp [hk]
        refine .inr ⟨by unfold ofT; rw [hf]; rfl, hf, fun x hx => ?_⟩
        have hpk := hge p (by simp)
        rcases List.mem_cons.1 hx with rfl | hx
        · omega
        · have := hp1 x hx; omega
theorem rise_mid {a r : List Tg} {k n : Int} (ha : RiseT a) (hr : RiseT r) (h1 : ∀ x ∈ a, x.1 < k) (h2 : ∀ x ∈ r, k < x.1) : RiseT (a ++ (k, n) :: r) := by
  refine List.pairwise_append.2 ⟨ha, List.pairwise_cons.2 ⟨fun x hx => h2 x hx, hr⟩, fun x hx y hy => ?_⟩
  rcases List.mem_cons.1 hy with rfl | hy
  · exact h1 x hx
  · have := h1 x hx; have := h2 y hy; omega
theorem at_mid {a r : List Tg} {k n : Int} (ha : RiseT a) (hr : RiseT r) (h1 : ∀ x ∈ a, x.1 < k) (h2 : ∀ x ∈ r, k < x.1) : ltN k (a ++ (k, n) :: r) = a.length ∧ ofT k (a ++ (k, n) :: r) = n := by
  have hl : ltN k (a ++ (k, n) :: r) = a.length := by
    refine ltN_is (rise_mid ha hr h1 h2) (by simp) (fun i p hp hi => ?_) (fun i p hp hi => ?_)
    · rw [List.getElem?_append_left hi] at hp; exact h1 p (List.mem_of_getElem? hp)
    · rw [List.getElem?_append_right hi] at hp
      rcases List.mem_cons.1 (List.mem_of_getElem? hp) with rfl | h
      · exact Int.le_refl _
      · have := h2 p h; omega
  refine ⟨hl, ?_⟩
  have h0 : (a ++ (k, n) :: r)[ltN k (a ++ (k, n) :: r)]? = some (k, n) := by rw [hl]; simp
  have hf : fdB k (a ++ (k, n) :: r) = true := by unfold fdB; rw [h0]; simp
  unfold ofT
  rw [if_pos hf, h0]
theorem at_none {a r : List Tg} {k : Int} (hr : RiseT (a ++ r)) (h1 : ∀ x ∈ a, x.1 < k) (h2 : ∀ x ∈ r, k < x.1) : ltN k (a ++ r) = a.length ∧ ofT k (a ++ r) = 0 := by
  have hl : ltN k (a ++ r) = a.length := by
    refine ltN_is hr (by simp) (fun i p hp hi => ?_) (fun i p hp hi => ?_)
    · rw [List.getElem?_append_left hi] at hp; exact h1 p (List.mem_of_getElem? hp)
    · rw [List.getElem?_append_right hi] at hp
      have := h2 p (List.mem_of_getElem? hp); omega
  refine ⟨hl, ?_⟩
  have hf : fdB k (a ++ r) = false := by
    unfold fdB
    rw [hl]
    cases e : (a ++ r)[a.length]? with
    | none => rfl
    | some p =>
      rw [List.getElem?_append_right (Nat.le_refl _)] at e
      have := h2 p (List.mem_of_getElem? e)
      simp
      omega
  unfold ofT
  rw [hf]
  rfl
end Go.Proofs.Ytnneicdphlidhaa
