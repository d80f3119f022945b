/-
  A helper of ours: no claim of its own. Layer 9 (step): the laws of step functions, as lists: a ring, values at places, both sides of a place. No program in it.
-/
import Derived.Test.YtkfdkjjocdbolaaStepT
set_option linter.unusedVariables false
set_option linter.unusedSimpArgs false
namespace Go.Proofs.Ytkfdkjjocdbolaa
open Go.RowKit
theorem full_zero {f : List Jp} : full f = 0 ↔ mayJ f = true := by
  unfold full
  cases mayJ f
  · simp
  · simp
theorem twE_zero {op : Int → Int → Int} {f g : List Jp} : twE op f g = 0 ↔ mayJ f = true ∧ mayJ g = true ∧ mayJ (opd op f g) = true := by
  unfold twE
  cases mayJ f <;> cases mayJ g <;> simp [full_zero]
theorem twR_ok {op : Int → Int → Int} {f g : List Jp} (h : twE op f g = 0) : twR op f g = opd op f g := by unfold twR; rw [if_pos h]
theorem opd_eq {op : Int → Int → Int} (h0 : op 0 0 = 0) {f g k : List Jp} (hf : mayJ f = true) (hg : mayJ g = true) (hk : Canon k) (hF : ∀ j ∈ k, j.1 < 1125899906842624) (h : ∀ t, jv k t = op (jv f t) (jv g t)) : k = opd op f g :=
  one_form hk (opd_canon op f g) hF (opd_lt hf hg) fun t ht => by rw [opd_val h0 hf hg t ht, h]
theorem tw_comm {op : Int → Int → Int} (h0 : op 0 0 = 0) (hc : ∀ x y, op x y = op y x) (f g : List Jp) : twE op f g = twE op g f ∧ twR op f g = twR op g f := by
  have e : mayJ f = true → mayJ g = true → opd op f g = opd op g f := fun hf hg =>
    opd_eq h0 hg hf (opd_canon op f g) (opd_lt hf hg) fun t => by rw [opd_all h0 hf hg, hc]
  have e1 : twE op f g = twE op g f := by
    unfold twE
    rw [Bool.and_comm]
    cases hf : mayJ f
    · simp
    · cases hg : mayJ g
      · simp
      · simp [e hf hg]
  refine ⟨e1, ?_⟩
  unfold twR
  rw [← e1]
  split
  · rename_i h
    obtain ⟨hf, hg, _⟩ := twE_zero.1 h
    exact e hf hg
  · rfl
theorem tw_of_eq {op op' : Int → Int → Int} {f g f' g' : List Jp} (hf : mayJ f = true) (hg : mayJ g = true) (hf' : mayJ f' = true) (hg' : mayJ g' = true) (h : opd op f g = opd op' f' g') : twE op f g = twE op' f' g' ∧ twR op f g = twR op' f' g' := by
  have e : twE op f g = twE op' f' g' := by unfold twE; rw [hf, hg, hf', hg', h]
  exact ⟨e, by unfold twR; rw [← e, h]⟩
theorem tw_assoc {f g h : List Jp} (h1 : twE (· + ·) f g = 0) (h2 : twE (· + ·) g h = 0) : twE (· + ·) (twR (· + ·) f g) h = twE (· + ·) f (twR (· + ·) g h) ∧ twR (· + ·) (twR (· + ·) f g) h = twR (· + ·) f (twR (· + ·) g h) := by
  rw [twR_ok h1, twR_ok h2]
  obtain ⟨hf, hg, hfg⟩ := twE_zero.1 h1
  obtain ⟨_, hh, hgh⟩ := twE_zero.1 h2
  refine tw_of_eq hfg hh hf hgh ?_
  refine opd_eq rfl hf hgh (opd_canon _ _ _) (opd_lt hfg hh) fun t => ?_
  rw [opd_all rfl hfg hh, opd_all rfl hf hg, opd_all rfl hg hh]
  exact Int.add_assoc _ _ _
theorem tw_dist {f g h : List Jp} (h1 : twE (· * ·) f g = 0) (h2 : twE (· + ·) g h = 0) (h3 : twE (· * ·) f h = 0) : twE (· * ·) f (twR (· + ·) g h) = twE (· + ·) (twR (· * ·) f g) (twR (· * ·) f h) ∧ twR (· * ·) f (twR (· + ·) g h) = twR (· + ·) (twR (· * ·) f g) (twR (· * ·) f h) := by
  rw [twR_ok h1, twR_ok h2, twR_ok h3]
  obtain ⟨hf, hg, hfg⟩ := twE_zero.1 h1
  obtain ⟨_, hh, hgh⟩ := twE_zero.1 h2
  obtain ⟨_, _, hfh⟩ := twE_zero.1 h3
  refine tw_of_eq hf hgh hfg hfh ?_
  refine opd_eq rfl hfg hfh (opd_canon _ _ _) (opd_lt hf hgh) fun t => ?_
  rw [opd_all rfl hf hgh, opd_all rfl hg hh, opd_all rfl hf hg, opd_all rfl hf hh]
  exact Int.mul_add _ _ _
theorem tw_point {op : Int → Int → Int} (h0 : op 0 0 = 0) {f g : List Jp} (h : twE op f g = 0) (t : Int) : atV (twR op f g) t = op (atV f t) (atV g t) := by
  rw [twR_ok h]
  obtain ⟨hf, hg, hfg⟩ := twE_zero.1 h
  unfold atV
  rw [hf, hg, hfg]
  exact opd_all h0 hf hg t
theorem jv_end {k : List Jp} (hk : ∀ j ∈ k, j.1 < 1125899906842624) {t : Int} (ht : 1125899906842624 ≤ t) : jv k t = jv k 1125899906842623 := by
  rw [jv_high (fun j hj => by have := hk j hj; omega), jv_high (fun j hj => by have := hk j hj; omega)]
theorem ahE_zero {f : List Jp} {t : Int} : ahE f t = 0 ↔ mayJ f = true ∧ mayJ (ahL f t) = true := by
  unfold ahE; cases mayJ f <;> simp [full_zero]
theorem reE_zero {f : List Jp} {t : Int} : reE f t = 0 ↔ mayJ f = true ∧ mayJ (reL f t) = true := by
  unfold reE; cases mayJ f <;> simp [full_zero]
theorem ah_left {f : List Jp} {t p : Int} (h : ahE f t = 0) (hp : p < t) : atV (ahR f t) p = atV f p := by
  unfold ahR; rw [if_pos h]
  obtain ⟨hf, ha⟩ := ahE_zero.1 h
  unfold atV; rw [hf, ha]
  simp only [if_true]
  by_cases hpF : p < 1125899906842624
  · rw [ahL_val hf t p hpF]; unfold ahV; rw [if_pos hp]
  · rw [jv_end (k := ahL f t) (t := p) (tell_lt _ _ _ _ (ahP_lt hf t)) (by omega), jv_end (k := f) (fun j hj => (mayJ_at hf j hj).2) (t := p) (by omega)]
    rw [ahL_val hf t _ (by omega)]; unfold ahV; rw [if_pos (by omega)]
theorem ah_right {f : List Jp} {t p : Int} (h : ahE f t = 0) (hp : t ≤ p) (ht : t < 1125899906842624) : atV (ahR f t) p = 0 := by
  unfold ahR; rw [if_pos h]
  obtain ⟨hf, ha⟩ := ahE_zero.1 h
  unfold atV; rw [ha]
  simp only [if_true]
  by_cases hpF : p < 1125899906842624
  · rw [ahL_val hf t p hpF]; unfold ahV; rw [if_neg (by omega)]
  · rw [jv_end (k := ahL f t) (t := p) (tell_lt _ _ _ _ (ahP_lt hf t)) (by omega)]
    rw [ahL_val hf t _ (by omega)]; unfold ahV; rw [if_neg (by omega)]
theorem reC_val {f : List Jp} (hf : mayJ f = true) (t u : Int) (hu : -1 ≤ u) : jv (reC f t) u = js (cutL f t) + jv (cutR f t) u := by
  unfold reC; split
  · rw [jv, if_pos (by simp only; omega)]
  · rename_i h0; simp only [ne_eq, Decidable.not_not] at h0; rw [h0]; omega
theorem re_right {f : List Jp} {t p : Int} (h : reE f t = 0) (hp : t ≤ p) (h0 : 0 ≤ t) (ht : t < 1125899906842624) : atV (reR f t) p = atV f p := by
  unfold reR; rw [if_pos h]
  obtain ⟨hf, ha⟩ := reE_zero.1 h
  unfold atV; rw [hf, ha]
  simp only [if_true]
  rw [← rest_code hf t ht, reC_val hf t p (by omega)]
  have e := jv_append (cutL f t) (cutR f t) p
  rw [cut_eq, jv_high (f := cutL f t) (fun j hj => by have := cutL_lt f t j hj; omega)] at e
  exact e.symm
theorem re_left {f : List Jp} {t p : Int} (h : reE f t = 0) (hp : p < t) (hp1 : -1 ≤ p) (ht : t < 1125899906842624) : atV (reR f t) p = atV f (t - 1) := by
  unfold reR; rw [if_pos h]
  obtain ⟨hf, ha⟩ := reE_zero.1 h
  unfold atV; rw [hf, ha]
  simp only [if_true]
  have hc := (mayJ_canon hf).1
  rw [← rest_code hf t ht, reC_val hf t p (by omega), jv_low (f := cutR f t) (fun j hj => by have := cutR_ge hc t j hj; omega), cutL_js hc]; omega
end Go.Proofs.Ytkfdkjjocdbolaa
