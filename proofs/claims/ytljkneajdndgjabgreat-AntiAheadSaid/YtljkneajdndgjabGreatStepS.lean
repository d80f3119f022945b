/-
  A helper of ours: no claim of its own. Layer 9 (step): step functions as lists of jumps: their values, their one form, and what is told by values at places. No program in it.
-/
import Derived.Test.YtljkneajdndgjabGreatMem
set_option linter.unusedVariables false
set_option linter.unusedSimpArgs false
namespace Go.Proofs.YtljkneajdndgjabGreat
open Go.RowKit
/-- A jump: where, and by how much. -/
abbrev Jp := Int × Int
/-- The sum of the jumps that are not above t. -/
def jv : List Jp → Int → Int
  | [], _ => 0
  | j :: r, t => (if j.1 ≤ t then j.2 else 0) + jv r t
/-- The sum of all. -/
def js : List Jp → Int
  | [] => 0
  | j :: r => j.2 + js r
theorem jv_append (f g : List Jp) (t : Int) : jv (f ++ g) t = jv f t + jv g t := by
  induction f with
  | nil => simp [jv]
  | cons a r ih => simp only [List.cons_append, jv, ih]; omega
theorem js_append (f g : List Jp) : js (f ++ g) = js f + js g := by
  induction f with
  | nil => simp [js]
  | cons a r ih => simp only [List.cons_append, js, ih]; omega
theorem jv_snoc (f : List Jp) (j : Jp) (t : Int) : jv (f ++ [j]) t = jv f t + (if j.1 ≤ t then j.2 else 0) := by rw [jv_append]; simp [jv]
theorem js_snoc (f : List Jp) (j : Jp) : js (f ++ [j]) = js f + j.2 := by rw [js_append]; simp [js]
theorem jv_low {f : List Jp} {t : Int} (h : ∀ j ∈ f, t < j.1) : jv f t = 0 := by
  induction f with
  | nil => rfl
  | cons a r ih =>
    have := h a (by simp)
    rw [jv, if_neg (by omega), ih (fun j hj => h j (by simp [hj]))]; omega
theorem jv_high {f : List Jp} {t : Int} (h : ∀ j ∈ f, j.1 ≤ t) : jv f t = js f := by
  induction f with
  | nil => rfl
  | cons a r ih => rw [jv, js, if_pos (h a (by simp)), ih (fun j hj => h j (by simp [hj]))]
theorem jv_bound {f : List Jp} {K : Int} (hK : 0 ≤ K) (h : ∀ j ∈ f, -K ≤ j.2 ∧ j.2 ≤ K) (t : Int) : -(K * f.length) ≤ jv f t ∧ jv f t ≤ K * f.length := by
  induction f with
  | nil => simp [jv]
  | cons a r ih =>
    have h1 := ih (fun j hj => h j (by simp [hj]))
    have h2 := h a (by simp)
    have e : K * ((a :: r).length : Int) = K * (r.length : Int) + K := by rw [List.length_cons]; push_cast; rw [Int.mul_add, Int.mul_one]
    rw [e, jv]
    generalize K * (r.length : Int) = z at *
    split <;> omega
theorem js_bound {f : List Jp} {K : Int} (hK : 0 ≤ K) (h : ∀ j ∈ f, -K ≤ j.2 ∧ j.2 ≤ K) : -(K * f.length) ≤ js f ∧ js f ≤ K * f.length := by
  induction f with
  | nil => simp [js]
  | cons a r ih =>
    have h1 := ih (fun j hj => h j (by simp [hj]))
    have h2 := h a (by simp)
    have e : K * ((a :: r).length : Int) = K * (r.length : Int) + K := by rw [List.length_cons]; push_cast; rw [Int.mul_add, Int.mul_one]
    rw [e, js]
    generalize K * (r.length : Int) = z at *
    omega
/-- Rising. -/
abbrev Asc (f : List Jp) : Prop := f.Pairwise fun a b => a.1 < b.1
/-- In the one form. -/
def Canon (f : List Jp) : Prop := Asc f ∧ ∀ j ∈ f, j.2 ≠ 0
theorem Canon.nil : Canon [] := ⟨List.Pairwise.nil, by simp⟩
theorem Canon.tail {j : Jp} {r : List Jp} (h : Canon (j :: r)) : Canon r := ⟨(List.pairwise_cons.1 h.1).2, fun k hk => h.2 k (by simp [hk])⟩
theorem Canon.snoc {f : List Jp} {j : Jp} (h : Canon f) (hl : ∀ k ∈ f, k.1 < j.1) (h0 : j.2 ≠ 0) : Canon (f ++ [j]) := by
  refine ⟨List.pairwise_append.2 ⟨h.1, by simp, fun a ha b hb => ?_⟩, fun k hk => ?_⟩
  · simp only [List.mem_singleton] at hb; subst hb; exact hl a ha
  · rcases List.mem_append.1 hk with hk | hk
    · exact h.2 k hk
    · simp only [List.mem_singleton] at hk; subst hk; exact h0
/-- What is told by values has one form. -/
theorem canon_eq (F : Int) : ∀ f g : List Jp, Canon f → Canon g → (∀ j ∈ f, j.1 < F) → (∀ j ∈ g, j.1 < F) → (∀ t, t < F → jv f t = jv g t) → f = g
  | [], [], _, _, _, _, _ => rfl
  | [], k :: g, _, hg, _, hG, h => by
    exfalso
    have h1 := h k.1 (hG k (by simp))
    have h2 := (List.pairwise_cons.1 hg.1).1
    rw [jv, jv, if_pos (Int.le_refl _), jv_low h2] at h1
    exact hg.2 k (by simp) (by omega)
  | j :: f, [], hf, _, hF, _, h => by
    exfalso
    have h1 := h j.1 (hF j (by simp))
    have h2 := (List.pairwise_cons.1 hf.1).1
    rw [jv, jv, if_pos (Int.le_refl _), jv_low h2] at h1
    exact hf.2 j (by simp) (by omega)
  | j :: f, k :: g, hf, hg, hF, hG, h => by
    have hj := (List.pairwise_cons.1 hf.1).1
    have hk := (List.pairwise_cons.1 hg.1).1
    have hj0 := hf.2 j (by simp)
    have hk0 := hg.2 k (by simp)
    have e1 : j.1 = k.1 := by
      rcases Int.lt_trichotomy j.1 k.1 with h1 | h1 | h1
      · exfalso
        have h2 := h j.1 (hF j (by simp))
        rw [jv, if_pos (Int.le_refl _), jv_low hj, jv_low (f := k :: g) (by intro a ha; rcases List.mem_cons.1 ha with rfl | ha; exact h1; exact Int.lt_trans h1 (hk a ha))] at h2
        omega
      · exact h1
      · exfalso
        have h2 := h k.1 (hG k (by simp))
        rw [jv.eq_2 k.1 k g, if_pos (Int.le_refl _), jv_low hk, jv_low (f := j :: f) (by intro a ha; rcases List.mem_cons.1 ha with rfl | ha; exact h1; exact Int.lt_trans h1 (hj a ha))] at h2
        omega
    have e2 : j.2 = k.2 := by
      have h2 := h j.1 (hF j (by simp))
      rw [jv, jv, if_pos (Int.le_refl _), if_pos (by omega), jv_low hj, jv_low (f := g) (by rw [e1]; exact hk)] at h2
      omega
    have e : j = k := Prod.ext e1 e2
    subst e
    congr 1
    exact canon_eq F f g hf.tail hg.tail (fun a ha => hF a (by simp [ha])) (fun a ha => hG a (by simp [ha])) (fun t ht => by have := h t ht; rw [jv, jv] at this; omega)
/-- The jumps between values at places. -/
def tell (v : Int → Int) : List Int → Int → List Jp
  | [], _ => []
  | p :: r, was => if v p = was then tell v r (v p) else (p, v p - was) :: tell v r (v p)
theorem tell_mem (v : Int → Int) : ∀ (ps : List Int) (was : Int) (j : Jp), j ∈ tell v ps was → j.1 ∈ ps ∧ j.2 ≠ 0
  | [], _, j, h => by simp [tell] at h
  | p :: r, was, j, h => by
    rw [tell] at h
    split at h
    · have := tell_mem v r (v p) j h; exact ⟨by simp [this.1], this.2⟩
    · rcases List.mem_cons.1 h with rfl | h
      · exact ⟨by simp, by simp only; omega⟩
      · have := tell_mem v r (v p) j h; exact ⟨by simp [this.1], this.2⟩
theorem tell_canon (v : Int → Int) : ∀ (ps : List Int) (was : Int), ps.Pairwise (· < ·) → Canon (tell v ps was)
  | [], _, _ => Canon.nil
  | p :: r, was, h => by
    have ih := tell_canon v r (v p) (List.pairwise_cons.1 h).2
    rw [tell]
    split
    · exact ih
    · refine ⟨List.pairwise_cons.2 ⟨fun a ha => (List.pairwise_cons.1 h).1 _ (tell_mem v r _ a ha).1, ih.1⟩, fun k hk => ?_⟩
      rcases List.mem_cons.1 hk with rfl | hk
      · simp only; omega
      · exact ih.2 k hk
theorem tell_val (v : Int → Int) (F : Int) : ∀ (ps : List Int) (was lo : Int), ps.Pairwise (· < ·) → (∀ p ∈ ps, lo ≤ p ∧ p < F) →
    (∀ s t, lo ≤ s → s ≤ t → t < F → (∀ p ∈ ps, p ≤ s ∨ t < p) → v s = v t) → (∀ t, lo ≤ t → t < F → (∀ p ∈ ps, t < p) → v t = was) → ∀ t, lo ≤ t → t < F → jv (tell v ps was) t = v t - was
  | [], was, lo, _, _, _, hl, t, h1, h2 => by rw [tell, jv, hl t h1 h2 (by simp)]; omega
  | p :: r, was, lo, ha, hlo, hs, hl, t, h1, h2 => by
    have hp := (List.pairwise_cons.1 ha).1
    have hpl := hlo p (by simp)
    by_cases htp : t < p
    · have e := hl t h1 h2 (by intro q hq; rcases List.mem_cons.1 hq with rfl | hq; exact htp; exact Int.lt_trans htp (hp q hq))
      rw [jv_low, e]; omega
      intro j hj
      have := (tell_mem v _ _ j hj).1
      rcases List.mem_cons.1 this with h | h
      · omega
      · have := hp _ h; omega
    · have ih := tell_val v F r (v p) p (List.pairwise_cons.1 ha).2 (fun q hq => ⟨Int.le_of_lt (hp q hq), (hlo q (by simp [hq])).2⟩)
        (fun s t' k1 k2 k3 k4 => hs s t' (by omega) k2 k3 (by intro q hq; rcases List.mem_cons.1 hq with rfl | hq; exact .inl k1; exact k4 q hq))
        (fun t' k1 k2 k3 => (hs p t' hpl.1 k1 k2 (by intro q hq; rcases List.mem_cons.1 hq with rfl | hq; exact .inl (Int.le_refl _); exact .inr (k3 q hq))).symm) t (by omega) h2
      rw [tell]
      split
      · rename_i h; rw [ih, h]
      · rw [jv, if_pos (by simp only; omega), ih]; omega
/-- As tell_val, from nowhere on. -/
theorem tell_all (v : Int → Int) (F : Int) (ps : List Int) (h : ps.Pairwise (· < ·)) (hF : ∀ p ∈ ps, p < F) (hs : ∀ s t, s ≤ t → t < F → (∀ p ∈ ps, p ≤ s ∨ t < p) → v s = v t) (hl : ∀ t, t < F → (∀ p ∈ ps, t < p) → v t = 0) (t : Int) (ht : t < F) : jv (tell v ps 0) t = v t := by
  obtain ⟨lo, h1, h2⟩ : ∃ lo, lo ≤ t ∧ ∀ p ∈ ps, lo ≤ p := by
    rcases ps with _ | ⟨p, r⟩
    · exact ⟨t, Int.le_refl _, by simp⟩
    · refine ⟨min t p, by omega, fun q hq => ?_⟩
      rcases List.mem_cons.1 hq with rfl | hq
      · omega
      · have := (List.pairwise_cons.1 h).1 q hq; omega
  have := tell_val v F ps 0 lo h (fun p hp => ⟨h2 p hp, hF p hp⟩) (fun s t _ k2 k3 k4 => hs s t k2 k3 k4) (fun t _ k2 k3 => hl t k2 k3) t h1 ht
  omega
/-- A place more, where it belongs. -/
def ins (l : List Int) (t : Int) : List Int := if t ∈ l then l else l.filter (fun x => decide (x < t)) ++ t :: l.filter (fun x => decide (t < x))
theorem ins_mem (l : List Int) (t x : Int) : x ∈ ins l t ↔ x = t ∨ x ∈ l := by
  unfold ins
  split
  · rename_i h
    constructor
    · exact .inr
    · rintro (rfl | h')
      · exact h
      · exact h'
  · simp only [List.mem_append, List.mem_cons, List.mem_filter, decide_eq_true_eq]
    constructor
    · rintro (⟨h1, _⟩ | rfl | ⟨h1, _⟩)
      · exact .inr h1
      · exact .inl rfl
      · exact .inr h1
    · rintro (rfl | h1)
      · exact .inr (.inl rfl)
      · rcases Int.lt_trichotomy x t with h | h | h
        · exact .inl ⟨h1, h⟩
        · exact .inr (.inl h)
        · exact .inr (.inr ⟨h1, h⟩)
theorem ins_asc {l : List Int} (t : Int) (h : l.Pairwise (· < ·)) : (ins l t).Pairwise (· < ·) := by
  unfold ins
  split
  · exact h
  · refine List.pairwise_append.2 ⟨h.sublist List.filter_sublist, List.pairwise_cons.2 ⟨fun a ha => ?_, h.sublist List.filter_sublist⟩, fun a ha b hb => ?_⟩
    · simp only [List.mem_filter, decide_eq_true_eq] at ha; exact ha.2
    · simp only [List.mem_filter, decide_eq_true_eq, List.mem_cons] at ha hb
      rcases hb with rfl | hb
      · exact ha.2
      · omega
/-- The places of jumps, rising, beside those that are there. -/
def plc (a : List Int) (f : List Jp) : List Int := f.foldl (fun a j => ins a j.1) a
theorem plc_mem (f : List Jp) : ∀ (a : List Int) (x : Int), x ∈ plc a f ↔ x ∈ a ∨ ∃ j ∈ f, j.1 = x := by
  induction f with
  | nil => intro a x; simp [plc]
  | cons k r ih =>
    intro a x
    rw [show plc a (k :: r) = plc (ins a k.1) r from rfl, ih, ins_mem]
    simp only [List.mem_cons, exists_eq_or_imp]
    constructor
    · rintro ((h | h) | h)
      · exact .inr (.inl h.symm)
      · exact .inl h
      · exact .inr (.inr h)
    · rintro (h | h | h)
      · exact .inl (.inr h)
      · exact .inl (.inl h.symm)
      · exact .inr h
theorem plc_asc (f : List Jp) : ∀ a : List Int, a.Pairwise (· < ·) → (plc a f).Pairwise (· < ·) := by
  induction f with
  | nil => intro a h; exact h
  | cons k r ih => intro a h; exact ih _ (ins_asc _ h)
theorem jv_between {f : List Jp} {s t : Int} (hst : s ≤ t) (h : ∀ j ∈ f, j.1 ≤ s ∨ t < j.1) : jv f s = jv f t := by
  induction f with
  | nil => rfl
  | cons a r ih =>
    rw [jv, jv, ih (fun j hj => h j (by simp [hj]))]
    rcases h a (by simp) with h1 | h1
    · rw [if_pos h1, if_pos (by omega)]
    · rw [if_neg (by omega), if_neg (by omega)]
/-- Is it a jump of a function? -/
def okJ (j : Jp) : Bool := decide (-1 ≤ j.1 ∧ j.1 < 1125899906842624 ∧ j.2 ≠ 0 ∧ j.2 ≤ 1048576 ∧ -1048576 ≤ j.2)
theorem okJ_iff {j : Jp} : okJ j = true ↔ -1 ≤ j.1 ∧ j.1 < 1125899906842624 ∧ j.2 ≠ 0 ∧ j.2 ≤ 1048576 ∧ -1048576 ≤ j.2 := by unfold okJ; rw [decide_eq_true_iff]
/-- Is it a function? -/
def mayJ (f : List Jp) : Bool := decide (f.length ≤ 1024) && (f.all okJ && decide (Asc f))
theorem mayJ_iff {f : List Jp} : mayJ f = true ↔ f.length ≤ 1024 ∧ (∀ j ∈ f, okJ j = true) ∧ Asc f := by
  unfold mayJ; rw [Bool.and_eq_true, Bool.and_eq_true, decide_eq_true_iff, decide_eq_true_iff, List.all_eq_true]
theorem mayJ_canon {f : List Jp} (h : mayJ f = true) : Canon f := by
  obtain ⟨_, h2, h3⟩ := mayJ_iff.1 h
  exact ⟨h3, fun j hj => (okJ_iff.1 (h2 j hj)).2.2.1⟩
theorem mayJ_net {f : List Jp} (h : mayJ f = true) : ∀ j ∈ f, -1048576 ≤ j.2 ∧ j.2 ≤ 1048576 := fun j hj => by
  have := okJ_iff.1 ((mayJ_iff.1 h).2.1 j hj); omega
theorem mayJ_at {f : List Jp} (h : mayJ f = true) : ∀ j ∈ f, -1 ≤ j.1 ∧ j.1 < 1125899906842624 := fun j hj => by
  have := okJ_iff.1 ((mayJ_iff.1 h).2.1 j hj); omega
theorem mayJ_len {f : List Jp} (h : mayJ f = true) : f.length ≤ 1024 := (mayJ_iff.1 h).1
theorem mayJ_nil : mayJ [] = true := by decide
/-- What begins a function is one. -/
theorem mayJ_left {f g : List Jp} (h : mayJ (f ++ g) = true) : mayJ f = true := by
  obtain ⟨h1, h2, h3⟩ := mayJ_iff.1 h
  rw [List.length_append] at h1
  exact mayJ_iff.2 ⟨by omega, fun j hj => h2 j (by simp [hj]), (List.pairwise_append.1 h3).1⟩
theorem mayJ_right {f g : List Jp} (h : mayJ (f ++ g) = true) : mayJ g = true := by
  obtain ⟨h1, h2, h3⟩ := mayJ_iff.1 h
  rw [List.length_append] at h1
  exact mayJ_iff.2 ⟨by omega, fun j hj => h2 j (by simp [hj]), (List.pairwise_append.1 h3).2.1⟩
/-- What is told by values at places, if there is room. -/
def full (f : List Jp) : Int := if mayJ f then 0 else 7
def kept (f : List Jp) : List Jp := if mayJ f then f else []
/-- Two that are in form, of the same values ahead of the end, are one. -/
theorem one_form {f g : List Jp} (hf : Canon f) (hg : Canon g) (h1 : ∀ j ∈ f, j.1 < 1125899906842624) (h2 : ∀ j ∈ g, j.1 < 1125899906842624) (h : ∀ t, t < 1125899906842624 → jv f t = jv g t) : f = g :=
  canon_eq 1125899906842624 f g hf hg h1 h2 h
end Go.Proofs.YtljkneajdndgjabGreat
