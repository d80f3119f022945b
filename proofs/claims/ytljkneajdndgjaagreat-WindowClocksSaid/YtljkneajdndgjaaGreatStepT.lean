/-
  A helper of ours: no claim of its own. Layer 9 (step): what each call makes of step functions, as lists: jumps put together, two functions at once, parts. No program in it.
-/
import Derived.Test.YtljkneajdndgjaaGreatMem
set_option linter.unusedVariables false
set_option linter.unusedSimpArgs false
namespace Go.Proofs.YtljkneajdndgjaaGreat
open Go.RowKit
/-- A jump: where, and by how much. -/
abbrev Jp := Int × Int
/-- The sum of the jumps that are not above t. -/
def jv : List Jp → Int → Int
  | [], _ => 0
  | j :: r, t => (if j.1 ≤ t then j.2 else 0) + jv r t
/-- The sum of all. -/
def js : List Jp → Int
  | [] => 0
  | j :: r => j.2 + js r
theorem jv_append (f g : List Jp) (t : Int) : jv (f ++ g) t = jv f t + jv g t := by
  induction f with
  | nil => simp [jv]
  | cons a r ih => simp only [List.cons_append, jv, ih]; omega
theorem js_append (f g : List Jp) : js (f ++ g) = js f + js g := by
  induction f with
  | nil => simp [js]
  | cons a r ih => simp only [List.cons_append, js, ih]; omega
theorem jv_snoc (f : List Jp) (j : Jp) (t : Int) : jv (f ++ [j]) t = jv f t + (if j.1 ≤ t then j.2 else 0) := by rw [jv_append]; simp [jv]
theorem js_snoc (f : List Jp) (j : Jp) : js (f ++ [j]) = js f + j.2 := by rw [js_append]; simp [js]
theorem jv_low {f : List Jp} {t : Int} (h : ∀ j ∈ f, t < j.1) : jv f t = 0 := by
  induction f with
  | nil => rfl
  | cons a r ih =>
    have := h a (by simp)
    rw [jv, if_neg (by omega), ih (fun j hj => h j (by simp [hj]))]; omega
theorem jv_high {f : List Jp} {t : Int} (h : ∀ j ∈ f, j.1 ≤ t) : jv f t = js f := by
  induction f with
  | nil => rfl
  | cons a r ih => rw [jv, js, if_pos (h a (by simp)), ih (fun j hj => h j (by simp [hj]))]
theorem jv_bound {f : List Jp} {K : Int} (hK : 0 ≤ K) (h : ∀ j ∈ f, -K ≤ j.2 ∧ j.2 ≤ K) (t : Int) : -(K * f.length) ≤ jv f t ∧ jv f t ≤ K * f.length := by
  induction f with
  | nil => simp [jv]
  | cons a r ih =>
    have h1 := ih (fun j hj => h j (by simp [hj]))
    have h2 := h a (by simp)
    have e : K * ((a :: r).length : Int) = K * (r.length : Int) + K := by rw [List.length_cons]; push_cast; rw [Int.mul_add, Int.mul_one]
    rw [e, jv]
    generalize K * (r.length : Int) = z at *
    split <;> omega
theorem js_bound {f : List Jp} {K : Int} (hK : 0 ≤ K) (h : ∀ j ∈ f, -K ≤ j.2 ∧ j.2 ≤ K) : -(K * f.length) ≤ js f ∧ js f ≤ K * f.length := by
  induction f with
  | nil => simp [js]
  | cons a r ih =>
    have h1 := ih (fun j hj => h j (by simp [hj]))
    have h2 := h a (by simp)
    have e : K * ((a :: r).length : Int) = K * (r.length : Int) + K := by rw [List.length_cons]; push_cast; rw [Int.mul_add, Int.mul_one]
    rw [e, js]
    generalize K * (r.length : Int) = z at *
    omega
/-- Rising. -/
abbrev Asc (f : List Jp) : Prop := f.Pairwise fun a b => a.1 < b.1
/-- In the one form. -/
def Canon (f : List Jp) : Prop := Asc f ∧ ∀ j ∈ f, j.2 ≠ 0
theorem Canon.nil : Canon [] := ⟨List.Pairwise.nil, by simp⟩
theorem Canon.tail {j : Jp} {r : List Jp} (h : Canon (j :: r)) : Canon r := ⟨(List.pairwise_cons.1 h.1).2, fun k hk => h.2 k (by simp [hk])⟩
theorem Canon.snoc {f : List Jp} {j : Jp} (h : Canon f) (hl : ∀ k ∈ f, k.1 < j.1) (h0 : j.2 ≠ 0) : Canon (f ++ [j]) := by
  refine ⟨List.pairwise_append.2 ⟨h.1, by simp, fun a ha b hb => ?_⟩, fun k hk => ?_⟩
  · simp only [List.mem_singleton] at hb; subst hb; exact hl a ha
  · rcases List.mem_append.1 hk with hk | hk
    · exact h.2 k hk
    · simp only [List.mem_singleton] at hk; subst hk; exact h0
/-- What is told by values has one form. -/
theorem canon_eq (F : Int) : ∀ f g : List Jp, Canon f → Canon g → (∀ j ∈ f, j.1 < F) → (∀ j ∈ g, j.1 < F) → (∀ t, t < F → jv f t = jv g t) → f = g
  | [], [], _, _, _, _, _ => rfl
  | [], k :: g, _, hg, _, hG, h => by
    exfalso
    have h1 := h k.1 (hG k (by simp))
    have h2 := (List.pairwise_cons.1 hg.1).1
    rw [jv, jv, if_pos (Int.le_refl _), jv_low h2] at h1
    exact hg.2 k (by simp) (by omega)
  | j :: f, [], hf, _, hF, _, h => by
    exfalso
    have h1 := h j.1 (hF j (by simp))
    have h2 := (List.pairwise_cons.1 hf.1).1
    rw [jv, jv, if_pos (Int.le_refl _), jv_low h2] at h1
    exact hf.2 j (by simp) (by omega)
  | j :: f, k :: g, hf, hg, hF, hG, h => by
    have hj := (List.pairwise_cons.1 hf.1).1
    have hk := (List.pairwise_cons.1 hg.1).1
    have hj0 := hf.2 j (by simp)
    have hk0 := hg.2 k (by simp)
    have e1 : j.1 = k.1 := by
      rcases Int.lt_trichotomy j.1 k.1 with h1 | h1 | h1
      · exfalso
        have h2 := h j.1 (hF j (by simp))
        rw [jv, if_pos (Int.le_refl _), jv_low hj, jv_low (f := k :: g) (by intro a ha; rcases List.mem_cons.1 ha with rfl | ha; exact h1; exact Int.lt_trans h1 (hk a ha))] at h2
        omega
      · exact h1
      · exfalso
        have h2 := h k.1 (hG k (by simp))
        rw [jv.eq_2 k.1 k g, if_pos (Int.le_refl _), jv_low hk, jv_low (f := j :: f) (by intro a ha; rcases List.mem_cons.1 ha with rfl | ha; exact h1; exact Int.lt_trans h1 (hj a ha))] at h2
        omega
    have e2 : j.2 = k.2 := by
      have h2 := h j.1 (hF j (by simp))
      rw [jv, jv, if_pos (Int.le_refl _), if_pos (by omega), jv_low hj, jv_low (f := g) (by rw [e1]; exact hk)] at h2
      omega
    have e : j = k := Prod.ext e1 e2
    subst e
    congr 1
    exact canon_eq F f g hf.tail hg.tail (fun a ha => hF a (by simp [ha])) (fun a ha => hG a (by simp [ha])) (fun t ht => by have := h t ht; rw [jv, jv] at this; omega)
/-- The jumps between values at places. -/
def tell (v : Int → Int) : List Int → Int → List Jp
  | [], _ => []
  | p :: r, was => if v p = was then tell v r (v p) else (p, v p - was) :: tell v r (v p)
theorem tell_mem (v : Int → Int) : ∀ (ps : List Int) (was : Int) (j : Jp), j ∈ tell v ps was → j.1 ∈ ps ∧ j.2 ≠ 0
  | [], _, j, h => by simp [tell] at h
  | p :: r, was, j, h => by
    rw [tell] at h
    split at h
    · have := tell_mem v r (v p) j h; exact ⟨by simp [this.1], this.2⟩
    · rcases List.mem_cons.1 h with rfl | h
      · exact ⟨by simp, by simp only; omega⟩
      · have := tell_mem v r (v p) j h; exact ⟨by simp [this.1], this.2⟩
theorem tell_canon (v : Int → Int) : ∀ (ps : List Int) (was : Int), ps.Pairwise (· < ·) → Canon (tell v ps was)
  | [], _, _ => Canon.nil
  | p :: r, was, h => by
    have ih := tell_canon v r (v p) (List.pairwise_cons.1 h).2
    rw [tell]
    split
    · exact ih
    · refine ⟨List.pairwise_cons.2 ⟨fun a ha => (List.pairwise_cons.1 h).1 _ (tell_mem v r _ a ha).1, ih.1⟩, fun k hk => ?_⟩
      rcases List.mem_cons.1 hk with rfl | hk
      · simp only; omega
      · exact ih.2 k hk
theorem tell_val (v : Int → Int) (F : Int) : ∀ (ps : List Int) (was lo : Int), ps.Pairwise (· < ·) → (∀ p ∈ ps, lo ≤ p ∧ p < F) →
    (∀ s t, lo ≤ s → s ≤ t → t < F → (∀ p ∈ ps, p ≤ s ∨ t < p) → v s = v t) → (∀ t, lo ≤ t → t < F → (∀ p ∈ ps, t < p) → v t = was) → ∀ t, lo ≤ t → t < F → jv (tell v ps was) t = v t - was
  | [], was, lo, _, _, _, hl, t, h1, h2 => by rw [tell, jv, hl t h1 h2 (by simp)]; omega
  | p :: r, was, lo, ha, hlo, hs, hl, t, h1, h2 => by
    have hp := (List.pairwise_cons.1 ha).1
    have hpl := hlo p (by simp)
    by_cases htp : t < p
    · have e := hl t h1 h2 (by intro q hq; rcases List.mem_cons.1 hq with rfl | hq; exact htp; exact Int.lt_trans htp (hp q hq))
      rw [jv_low, e]; omega
      intro j hj
      have := (tell_mem v _ _ j hj).1
      rcases List.mem_cons.1 this with h | h
      · omega
      · have := hp _ h; omega
    · have ih := tell_val v F r (v p) p (List.pairwise_cons.1 ha).2 (fun q hq => ⟨Int.le_of_lt (hp q hq), (hlo q (by simp [hq])).2⟩)
        (fun s t' k1 k2 k3 k4 => hs s t' (by omega) k2 k3 (by intro q hq; rcases List.mem_cons.1 hq with rfl | hq; exact .inl k1; exact k4 q hq))
        (fun t' k1 k2 k3 => (hs p t' hpl.1 k1 k2 (by intro q hq; rcases List.mem_cons.1 hq with rfl | hq; exact .inl (Int.le_refl _); exact .inr (k3 q hq))).symm) t (by omega) h2
      rw [tell]
      split
      · rename_i h; rw [ih, h]
      · rw [jv, if_pos (by simp only; omega), ih]; omega
/-- As tell_val, from nowhere on. -/
theorem tell_all (v : Int → Int) (F : Int) (ps : List Int) (h : ps.Pairwise (· < ·)) (hF : ∀ p ∈ ps, p < F) (hs : ∀ s t, s ≤ t → t < F → (∀ p ∈ ps, p ≤ s ∨ t < p) → v s = v t) (hl : ∀ t, t < F → (∀ p ∈ ps, t < p) → v t = 0) (t : Int) (ht : t < F) : jv (tell v ps 0) t = v t := by
  obtain ⟨lo, h1, h2⟩ : ∃ lo, lo ≤ t ∧ ∀ p ∈ ps, lo ≤ p := by
    rcases ps with _ | ⟨p, r⟩
    · exact ⟨t, Int.le_refl _, by simp⟩
    · refine ⟨min t p, by omega, fun q hq => ?_⟩
      rcases List.mem_cons.1 hq with rfl | hq
      · omega
      · have := (List.pairwise_cons.1 h).1 q hq; omega
  have := tell_val v F ps 0 lo h (fun p hp => ⟨h2 p hp, hF p hp⟩) (fun s t _ k2 k3 k4 => hs s t k2 k3 k4) (fun t _ k2 k3 => hl t k2 k3) t h1 ht
  omega
/-- A place more, where it belongs. -/
def ins (l : List Int) (t : Int) : List Int := if t ∈ l then l else l.filter (fun x => decide (x < t)) ++ t :: l.filter (fun x => decide (t < x))
theorem ins_mem (l : List Int) (t x : Int) : x ∈ ins l t ↔ x = t ∨ x ∈ l := by
  unfold ins
  split
  · rename_i h
    constructor
    · exact .inr
    · rintro (rfl | h')
      · exact h
      · exact h'
  · simp only [List.mem_append, List.mem_cons, List.mem_filter, decide_eq_true_eq]
    constructor
    · rintro (⟨h1, _⟩ | rfl | ⟨h1, _⟩)
      · exact .inr h1
      · exact .inl rfl
      · exact .inr h1
    · rintro (rfl | h1)
      · exact .inr (.inl rfl)
      · rcases Int.lt_trichotomy x t with h | h | h
        · exact .inl ⟨h1, h⟩
        · exact .inr (.inl h)
        · exact .inr (.inr ⟨h1, h⟩)
theorem ins_asc {l : List Int} (t : Int) (h : l.Pairwise (· < ·)) : (ins l t).Pairwise (· < ·) := by
  unfold ins
  split
  · exact h
  · refine List.pairwise_append.2 ⟨h.sublist List.filter_sublist, List.pairwise_cons.2 ⟨fun a ha => ?_, h.sublist List.filter_sublist⟩, fun a ha b hb => ?_⟩
    · simp only [List.mem_filter, decide_eq_true_eq] at ha; exact ha.2
    · simp only [List.mem_filter, decide_eq_true_eq, List.mem_cons] at ha hb
      rcases hb with rfl | hb
      · exact ha.2
      · omega
theorem ins_length (l : List Int) (t : Int) (h : l.Pairwise (· < ·)) : (ins l t).length ≤ l.length + 1 := by
  unfold ins
  split
  · omega
  · rw [List.length_append, List.length_cons]
    have : ∀ m : List Int, (m.filter (fun x => decide (x < t))).length + (m.filter (fun x => decide (t < x))).length ≤ m.length := by
      intro m
      induction m with
      | nil => simp
      | cons a r ih =>
        simp only [List.filter_cons]
        split <;> split <;> simp only [List.length_cons, decide_eq_true_eq] at * <;> omega
    have := this l
    omega
/-- The places of jumps, rising, beside those that are there. -/
def plc (a : List Int) (f : List Jp) : List Int := f.foldl (fun a j => ins a j.1) a
theorem plc_snoc (a : List Int) (f : List Jp) (j : Jp) : plc a (f ++ [j]) = ins (plc a f) j.1 := by simp [plc]
theorem plc_mem (f : List Jp) : ∀ (a : List Int) (x : Int), x ∈ plc a f ↔ x ∈ a ∨ ∃ j ∈ f, j.1 = x := by
  induction f with
  | nil => intro a x; simp [plc]
  | cons k r ih =>
    intro a x
    rw [show plc a (k :: r) = plc (ins a k.1) r from rfl, ih, ins_mem]
    simp only [List.mem_cons, exists_eq_or_imp]
    constructor
    · rintro ((h | h) | h)
      · exact .inr (.inl h.symm)
      · exact .inl h
      · exact .inr (.inr h)
    · rintro (h | h | h)
      · exact .inl (.inr h)
      · exact .inl (.inl h.symm)
      · exact .inr h
theorem plc_asc (f : List Jp) : ∀ a : List Int, a.Pairwise (· < ·) → (plc a f).Pairwise (· < ·) := by
  induction f with
  | nil => intro a h; exact h
  | cons k r ih => intro a h; exact ih _ (ins_asc _ h)
theorem plc_length (f : List Jp) : ∀ a : List Int, a.Pairwise (· < ·) → (plc a f).length ≤ a.length + f.length := by
  induction f with
  | nil => intro a h; simp [plc]
  | cons k r ih =>
    intro a h
    have h1 := ih _ (ins_asc k.1 h)
    have h2 := ins_length a k.1 h
    rw [show plc a (k :: r) = plc (ins a k.1) r from rfl, List.length_cons]
    omega
theorem jv_between {f : List Jp} {s t : Int} (hst : s ≤ t) (h : ∀ j ∈ f, j.1 ≤ s ∨ t < j.1) : jv f s = jv f t := by
  induction f with
  | nil => rfl
  | cons a r ih =>
    rw [jv, jv, ih (fun j hj => h j (by simp [hj]))]
    rcases h a (by simp) with h1 | h1
    · rw [if_pos h1, if_pos (by omega)]
    · rw [if_neg (by omega), if_neg (by omega)]
/-- Is it a jump of a function? -/
def okJ (j : Jp) : Bool := decide (-1 ≤ j.1 ∧ j.1 < 1125899906842624 ∧ j.2 ≠ 0 ∧ j.2 ≤ 1048576 ∧ -1048576 ≤ j.2)
theorem okJ_iff {j : Jp} : okJ j = true ↔ -1 ≤ j.1 ∧ j.1 < 1125899906842624 ∧ j.2 ≠ 0 ∧ j.2 ≤ 1048576 ∧ -1048576 ≤ j.2 := by unfold okJ; rw [decide_eq_true_iff]
/-- Is it a function? -/
def mayJ (f : List Jp) : Bool := decide (f.length ≤ 1024) && (f.all okJ && decide (Asc f))
theorem mayJ_iff {f : List Jp} : mayJ f = true ↔ f.length ≤ 1024 ∧ (∀ j ∈ f, okJ j = true) ∧ Asc f := by
  unfold mayJ; rw [Bool.and_eq_true, Bool.and_eq_true, decide_eq_true_iff, decide_eq_true_iff, List.all_eq_true]
theorem mayJ_canon {f : List Jp} (h : mayJ f = true) : Canon f := by
  obtain ⟨_, h2, h3⟩ := mayJ_iff.1 h
  exact ⟨h3, fun j hj => (okJ_iff.1 (h2 j hj)).2.2.1⟩
theorem mayJ_net {f : List Jp} (h : mayJ f = true) : ∀ j ∈ f, -1048576 ≤ j.2 ∧ j.2 ≤ 1048576 := fun j hj => by
  have := okJ_iff.1 ((mayJ_iff.1 h).2.1 j hj); omega
theorem mayJ_at {f : List Jp} (h : mayJ f = true) : ∀ j ∈ f, -1 ≤ j.1 ∧ j.1 < 1125899906842624 := fun j hj => by
  have := okJ_iff.1 ((mayJ_iff.1 h).2.1 j hj); omega
theorem mayJ_len {f : List Jp} (h : mayJ f = true) : f.length ≤ 1024 := (mayJ_iff.1 h).1
theorem mayJ_jv {f : List Jp} (h : mayJ f = true) (t : Int) : -1073741824 ≤ jv f t ∧ jv f t ≤ 1073741824 := by
  have h1 := jv_bound (K := 1048576) (by omega) (mayJ_net h) t
  have h2 := mayJ_len h
  omega
theorem mayJ_nil : mayJ [] = true := by decide
/-- What is told by values at places, if there is room. -/
def full (f : List Jp) : Int := if mayJ f then 0 else 7
def kept (f : List Jp) : List Jp := if mayJ f then f else []
/-- Two that are in form, of the same values ahead of the end, are one. -/
theorem one_form {f g : List Jp} (hf : Canon f) (hg : Canon g) (h1 : ∀ j ∈ f, j.1 < 1125899906842624) (h2 : ∀ j ∈ g, j.1 < 1125899906842624) (h : ∀ t, t < 1125899906842624 → jv f t = jv g t) : f = g :=
  canon_eq 1125899906842624 f g hf hg h1 h2 h
end Go.Proofs.YtljkneajdndgjaaGreat
set_option linter.unusedVariables false
set_option linter.unusedSimpArgs false
namespace Go.Proofs.YtljkneajdndgjaaGreat
open Go.RowKit
theorem tell_lt (v : Int → Int) (F : Int) (ps : List Int) (was : Int) (h : ∀ p ∈ ps, p < F) : ∀ j ∈ tell v ps was, j.1 < F := fun j hj => h _ (tell_mem v ps was j hj).1
theorem Asc.nil' : ([] : List Int).Pairwise (· < ·) := List.Pairwise.nil
/-! ### Norm -/
def tooJ (j : Jp) : Bool := decide (1048576 < j.2 ∨ j.2 < -1048576)
/-- One more, in order. -/
def addS (acc : List Jp) (j : Jp) : List Jp := match acc.getLast? with
  | none => [j]
  | some k => if k.1 = j.1 then acc.dropLast ++ [(k.1, k.2 + j.2)] else acc ++ [j]
def addup (s : List Jp) : List Jp := s.foldl addS []
theorem addup_snoc (s : List Jp) (j : Jp) : addup (s ++ [j]) = addS (addup s) j := by simp [addup]
theorem addS_nil (j : Jp) : addS [] j = [j] := rfl
theorem addS_same (acc : List Jp) (k j : Jp) (h : k.1 = j.1) : addS (acc ++ [k]) j = acc ++ [(k.1, k.2 + j.2)] := by
  unfold addS; simp [h]
theorem addS_other (acc : List Jp) (k j : Jp) (h : ¬ k.1 = j.1) : addS (acc ++ [k]) j = acc ++ [k] ++ [j] := by
  unfold addS; simp [h]
theorem snoc_cases {α : Type} (l : List α) : l = [] ∨ ∃ m a, l = m ++ [a] := by
  rcases List.eq_nil_or_concat l with h | ⟨m, a, h⟩
  · exact .inl h
  · exact .inr ⟨m, a, by rw [h, List.concat_eq_append]⟩
/-- What was added up is in order, and its last place is that of the last one; no more than there were; and no jump is greater than all together. -/
theorem addup_inv (K : Int) (hK : 0 ≤ K) : ∀ (n : Nat) (s : List Jp), s.length = n → s.Pairwise (fun a b => a.1 ≤ b.1) → (∀ j ∈ s, -K ≤ j.2 ∧ j.2 ≤ K) →
    Asc (addup s) ∧ (addup s).length ≤ n ∧ (∀ j ∈ addup s, ∃ k ∈ s, k.1 = j.1) ∧ (∀ j ∈ addup s, -(K * n) ≤ j.2 ∧ j.2 ≤ K * n)
  | 0, s, h, _, _ => by
    obtain rfl := List.length_eq_zero_iff.1 h
    exact ⟨List.Pairwise.nil, by simp [addup], by simp [addup], by simp [addup]⟩
  | n + 1, s, h, hs, hb => by
    rcases snoc_cases s with rfl | ⟨m, j, rfl⟩
    · simp at h
    have hm : m.length = n := by simpa using h
    obtain ⟨h1, h2, h3, h4⟩ := addup_inv K hK n m hm (List.pairwise_append.1 hs).1 (fun a ha => hb a (by simp [ha]))
    have hle : ∀ a ∈ m, a.1 ≤ j.1 := fun a ha => (List.pairwise_append.1 hs).2.2 a ha j (by simp)
    have hj := hb j (by simp)
    have hlt : ∀ a ∈ addup m, a.1 ≤ j.1 := fun a ha => by obtain ⟨k, hk, e⟩ := h3 a ha; have := hle k hk; omega
    have eK : K * ((n + 1 : Nat) : Int) = K * (n : Int) + K := by push_cast; rw [Int.mul_add, Int.mul_one]
    rw [eK]
    have hKn : 0 ≤ K * (n : Int) := Int.mul_nonneg hK (by omega)
    generalize K * (n : Int) = z at *
    rw [addup_snoc]
    rcases snoc_cases (addup m) with e | ⟨p, k, e⟩
    · rw [e, addS_nil]
      exact ⟨by simp, by simp, fun a ha => by simp only [List.mem_singleton] at ha; subst ha; exact ⟨a, by simp, rfl⟩, fun a ha => by simp only [List.mem_singleton] at ha; subst ha; omega⟩
    · rw [e] at h1 h2 h3 h4 hlt ⊢
      have hpk := (List.pairwise_append.1 h1).2.2
      by_cases hk : k.1 = j.1
      · rw [addS_same _ _ _ hk]
        refine ⟨List.pairwise_append.2 ⟨(List.pairwise_append.1 h1).1, by simp, fun a ha b hb => ?_⟩, by simpa using (by simp at h2; omega), fun a ha => ?_, fun a ha => ?_⟩
        · simp only [List.mem_singleton] at hb; subst hb; exact hpk a ha k (by simp)
        · rcases List.mem_append.1 ha with ha | ha
          · obtain ⟨q, hq, e2⟩ := h3 a (by simp [ha]); exact ⟨q, by simp [hq], e2⟩
          · simp only [List.mem_singleton] at ha; subst ha; exact ⟨j, by simp, hk.symm⟩
        · rcases List.mem_append.1 ha with ha | ha
          · have := h4 a (by simp [ha]); omega
          · simp only [List.mem_singleton] at ha; subst ha; have := h4 k (by simp); simp only; omega
      · rw [addS_other _ _ _ hk]
        have hkj : k.1 < j.1 := by have := hlt k (by simp); omega
        refine ⟨List.pairwise_append.2 ⟨h1, by simp, fun a ha b hb => ?_⟩, by simpa using (by simp at h2; omega), fun a ha => ?_, fun a ha => ?_⟩
        · simp only [List.mem_singleton] at hb; subst hb
          rcases List.mem_append.1 ha with ha | ha
          · have := hpk a ha k (by simp); omega
          · simp only [List.mem_singleton] at ha; subst ha; exact hkj
        · rcases List.mem_append.1 ha with ha | ha
          · obtain ⟨q, hq, e2⟩ := h3 a (by simpa using ha); exact ⟨q, by simp [hq], e2⟩
          · simp only [List.mem_singleton] at ha; subst ha; exact ⟨a, by simp, rfl⟩
        · rcases List.mem_append.1 ha with ha | ha
          · have := h4 a (by simpa using ha); omega
          · simp only [List.mem_singleton] at ha; subst ha; omega
/-! ### Two at once -/
def nxt : List Jp → Int
  | [] => 1125899906842624
  | j :: _ => j.1
def opv (op : Int → Int → Int) (f g : List Jp) (t : Int) : Int := op (jv f t) (jv g t)
def opd (op : Int → Int → Int) (f g : List Jp) : List Jp := tell (opv op f g) (plc (plc [] f) g) 0
def twE (op : Int → Int → Int) (f g : List Jp) : Int := if mayJ f && mayJ g then full (opd op f g) else 2
/-- Two functions, gone through up to a place. -/
structure Comb (op : Int → Int → Int) (f1 f2 g1 g2 made : List Jp) : Prop where
  canon : Canon made
  lt : ∀ j ∈ made, j.1 < min (nxt f2) (nxt g2)
  l1 : ∀ j ∈ f1, j.1 < min (nxt f2) (nxt g2)
  l2 : ∀ j ∈ g1, j.1 < min (nxt f2) (nxt g2)
  sum : js made = op (js f1) (js g1)
  at' : ∀ t, t < min (nxt f2) (nxt g2) → jv made t = op (jv f1 t) (jv g1 t)
  len : made.length ≤ f1.length + g1.length
/-- What is passed at a place. -/
def pasL (f2 : List Jp) (t : Int) : List Jp := match f2 with
  | [] => []
  | j :: r => if j.1 = t then [j] else []
theorem pas_at (f2 : List Jp) (t : Int) : ∀ j ∈ pasL f2 t, j.1 = t := by
  rcases f2 with _ | ⟨j, r⟩
  · simp [pasL]
  · simp only [pasL]; split
    · rename_i h; intro k hk; simp only [List.mem_singleton] at hk; subst hk; exact h
    · simp
theorem pas_jv {f1 f2 : List Jp} {t u : Int} (hu : u < t) : jv (f1 ++ pasL f2 t) u = jv f1 u := by
  rw [jv_append, jv_low (f := pasL f2 t) (fun j hj => by rw [pas_at f2 t j hj]; exact hu)]; omega
/-! ### The other sign; parts -/
/-- The jumps ahead of a place, those from it on. -/
def cutL (f : List Jp) (t : Int) : List Jp := f.takeWhile fun j => decide (j.1 < t)
def cutR (f : List Jp) (t : Int) : List Jp := f.dropWhile fun j => decide (j.1 < t)
theorem cut_eq (f : List Jp) (t : Int) : cutL f t ++ cutR f t = f := List.takeWhile_append_dropWhile
theorem cutL_lt (f : List Jp) (t : Int) : ∀ j ∈ cutL f t, j.1 < t := by
  induction f with
  | nil => simp [cutL]
  | cons a r ih =>
    intro j hj
    unfold cutL at hj ih
    rw [List.takeWhile_cons] at hj
    split at hj
    · rename_i e
      rcases List.mem_cons.1 hj with rfl | hj
      · simpa using e
      · exact ih j hj
    · simp at hj
theorem cutR_ge {f : List Jp} (h : Asc f) (t : Int) : ∀ j ∈ cutR f t, t ≤ j.1 := by
  induction f with
  | nil => simp [cutR]
  | cons a r ih =>
    intro j hj
    unfold cutR at hj ih
    rw [List.dropWhile_cons] at hj
    split at hj
    · exact ih (List.pairwise_cons.1 h).2 j hj
    · rename_i e
      simp only [decide_eq_true_eq] at e
      rcases List.mem_cons.1 hj with rfl | hj
      · omega
      · have := (List.pairwise_cons.1 h).1 j hj; omega
def ahV (f : List Jp) (t p : Int) : Int := if p < t then jv f p else 0
def ahP (f : List Jp) (t : Int) : List Int := if -1 ≤ t ∧ t < 1125899906842624 then ins (plc [] f) t else plc [] f
def ahL (f : List Jp) (t : Int) : List Jp := tell (ahV f t) (ahP f t) 0
def ahE (f : List Jp) (t : Int) : Int := if mayJ f then full (ahL f t) else 2
def ahR (f : List Jp) (t : Int) : List Jp := if ahE f t = 0 then ahL f t else []
theorem plc0_mem (f : List Jp) (x : Int) : x ∈ plc [] f ↔ ∃ j ∈ f, j.1 = x := by rw [plc_mem]; simp
theorem ahP_asc (f : List Jp) (t : Int) : (ahP f t).Pairwise (· < ·) := by
  unfold ahP; split
  · exact ins_asc _ (plc_asc _ _ Asc.nil')
  · exact plc_asc _ _ Asc.nil'
theorem ahP_lt {f : List Jp} (hf : mayJ f = true) (t : Int) : ∀ p ∈ ahP f t, p < 1125899906842624 := by
  have h : ∀ p ∈ plc [] f, p < 1125899906842624 := fun p hp => by obtain ⟨j, hj, rfl⟩ := (plc0_mem f p).1 hp; exact (mayJ_at hf j hj).2
  intro p hp
  unfold ahP at hp
  split at hp
  · rename_i e; rcases (ins_mem _ _ _).1 hp with rfl | hp
    · exact e.2
    · exact h p hp
  · exact h p hp
theorem ahP_sub (f : List Jp) (t : Int) : ∀ j ∈ f, j.1 ∈ ahP f t := by
  intro j hj
  have := (plc0_mem f j.1).2 ⟨j, hj, rfl⟩
  unfold ahP; split
  · exact (ins_mem _ _ _).2 (.inr this)
  · exact this
theorem ahL_val {f : List Jp} (hf : mayJ f = true) (t u : Int) (hu : u < 1125899906842624) : jv (ahL f t) u = ahV f t u := by
  refine tell_all (ahV f t) 1125899906842624 _ (ahP_asc f t) (ahP_lt hf t) (fun s u h1 h2 h3 => ?_) (fun u h1 h2 => ?_) u hu
  · have e := jv_between h1 (f := f) (fun j hj => h3 _ (ahP_sub f t j hj))
    unfold ahV
    by_cases hs : s < t
    · by_cases ht : u < t
      · rw [if_pos hs, if_pos ht, e]
      · have hnot : ¬ (-1 ≤ t ∧ t < 1125899906842624) := fun h => by
          have := h3 t (by unfold ahP; rw [if_pos h]; exact (ins_mem _ _ _).2 (.inl rfl)); omega
        rw [if_pos hs, if_neg ht]
        exact jv_low fun j hj => by have := (mayJ_at hf j hj).1; omega
    · rw [if_neg hs, if_neg (by omega)]
  · unfold ahV
    split
    · exact jv_low fun j hj => h2 _ (ahP_sub f t j hj)
    · rfl
def ahC (f : List Jp) (t : Int) : List Jp := if js (cutL f t) ≠ 0 ∧ t < 1125899906842624 then cutL f t ++ [(t, -js (cutL f t))] else cutL f t
theorem cut_jv {f : List Jp} (h : Asc f) {t u : Int} (hu : u < t) : jv (cutL f t) u = jv f u := by
  have := jv_append (cutL f t) (cutR f t) u
  rw [cut_eq, jv_low (f := cutR f t) (fun j hj => by have := cutR_ge h t j hj; omega)] at this
  omega
theorem cutL_canon {f : List Jp} (h : Canon f) (t : Int) : Canon (cutL f t) := ⟨h.1.sublist (List.takeWhile_sublist _), fun j hj => h.2 j ((List.takeWhile_sublist _).subset hj)⟩
theorem cutR_canon {f : List Jp} (h : Canon f) (t : Int) : Canon (cutR f t) := ⟨h.1.sublist (List.dropWhile_sublist _), fun j hj => h.2 j ((List.dropWhile_sublist _).subset hj)⟩
theorem cutL_js {f : List Jp} (h : Asc f) (t : Int) : js (cutL f t) = jv f (t - 1) := by
  rw [← cut_jv h (t := t) (u := t - 1) (by omega), jv_high (fun j hj => by have := cutL_lt f t j hj; omega)]
theorem ahead_code {f : List Jp} (hf : mayJ f = true) (t : Int) : ahC f t = ahL f t := by
  have hc := mayJ_canon hf
  have hL := cutL_canon hc t
  have hin : ∀ j ∈ cutL f t, j ∈ f := fun j hj => (List.takeWhile_sublist _).subset hj
  refine one_form ?_ (tell_canon _ _ _ (ahP_asc f t)) ?_ (tell_lt _ _ _ _ (ahP_lt hf t)) (fun u hu => ?_)
  · unfold ahC; split
    · exact hL.snoc (cutL_lt f t) (by simp only; omega)
    · exact hL
  · intro j hj
    unfold ahC at hj
    split at hj
    · rcases List.mem_append.1 hj with hj | hj
      · exact (mayJ_at hf j (hin j hj)).2
      · simp only [List.mem_singleton] at hj; subst hj; simp only; omega
    · exact (mayJ_at hf j (hin j hj)).2
  · show _ = jv (ahL f t) u
    rw [ahL_val hf t u hu]
    unfold ahV ahC
    by_cases hut : u < t
    · rw [if_pos hut]
      split
      · rw [jv_snoc, if_neg (by simp only; omega), cut_jv hc.1 hut]; omega
      · exact cut_jv hc.1 hut
    · rw [if_neg hut]
      have e := jv_high (f := cutL f t) (t := u) (fun j hj => by have := cutL_lt f t j hj; omega)
      split
      · rw [jv_snoc, if_pos (by simp only; omega), e]; simp only; omega
      · rw [e]; omega
def reV (f : List Jp) (t p : Int) : Int := jv f (if -1 < t ∧ p < t then t - 1 else p)
def reP (f : List Jp) : List Int := ins (plc [] f) (-1)
def reL (f : List Jp) (t : Int) : List Jp := if 1125899906842624 ≤ t then [] else tell (reV f t) (reP f) 0
def reE (f : List Jp) (t : Int) : Int := if mayJ f then full (reL f t) else 2
def reR (f : List Jp) (t : Int) : List Jp := if reE f t = 0 then reL f t else []
def reC (f : List Jp) (t : Int) : List Jp := if js (cutL f t) ≠ 0 then (-1, js (cutL f t)) :: cutR f t else cutR f t
theorem reP_asc (f : List Jp) : (reP f).Pairwise (· < ·) := ins_asc _ (plc_asc _ _ Asc.nil')
theorem reP_lt {f : List Jp} (hf : mayJ f = true) : ∀ p ∈ reP f, p < 1125899906842624 := by
  intro p hp
  rcases (ins_mem _ _ _).1 hp with rfl | hp
  · omega
  · obtain ⟨j, hj, rfl⟩ := (plc0_mem f p).1 hp; exact (mayJ_at hf j hj).2
theorem rest_code {f : List Jp} (hf : mayJ f = true) (t : Int) (ht : t < 1125899906842624) : reC f t = reL f t := by
  have hc := mayJ_canon hf
  have hR := cutR_canon hc t
  have hin : ∀ j ∈ cutR f t, j ∈ f := fun j hj => (List.dropWhile_sublist _).subset hj
  have hinL : ∀ j ∈ cutL f t, j ∈ f := fun j hj => (List.takeWhile_sublist _).subset hj
  have hbase : t ≤ -1 → js (cutL f t) = 0 := fun h => by
    rw [cutL_js hc.1]; exact jv_low fun j hj => by have := (mayJ_at hf j hj).1; omega
  have hsub : ∀ j ∈ f, j.1 ∈ reP f := fun j hj => (ins_mem _ _ _).2 (.inr ((plc0_mem f _).2 ⟨j, hj, rfl⟩))
  have hm1 : (-1 : Int) ∈ reP f := (ins_mem _ _ _).2 (.inl rfl)
  rw [reL, if_neg (by omega)]
  refine canon_eq 1125899906842624 _ _ ?_ (tell_canon _ _ _ (reP_asc f)) ?_ (tell_lt _ _ _ _ (reP_lt hf)) (fun u hu => ?_)
  · unfold reC; split
    · rename_i h0
      have ht1 : -1 < t := by rcases Int.lt_or_le (-1) t with h | h; exact h; exact absurd (hbase h) h0
      refine ⟨List.pairwise_cons.2 ⟨fun a ha => by have := cutR_ge hc.1 t a ha; simp only; omega, hR.1⟩, fun k hk => ?_⟩
      rcases List.mem_cons.1 hk with rfl | hk
      · exact h0
      · exact hR.2 k hk
    · exact hR
  · intro j hj
    unfold reC at hj
    split at hj
    · rcases List.mem_cons.1 hj with rfl | hj
      · simp only; omega
      · exact (mayJ_at hf j (hin j hj)).2
    · exact (mayJ_at hf j (hin j hj)).2
  · -- the told one has reV from -1 on, and 0 ahead of it
    have hT : -1 ≤ u → jv (tell (reV f t) (reP f) 0) u = reV f t u := fun hu1 => by
      have hrp : ∃ r, reP f = -1 :: r := by
        have ha := reP_asc f
        rcases e : reP f with _ | ⟨p, r⟩
        · rw [e] at hm1; simp at hm1
        · refine ⟨r, ?_⟩
          rw [e] at hm1 ha
          rcases List.mem_cons.1 hm1 with h | h
          · rw [← h]
          · have h1 := (List.pairwise_cons.1 ha).1 _ h
            have h2 : p ∈ reP f := by rw [e]; simp
            rcases (ins_mem _ _ _).1 h2 with rfl | h3
            · rfl
            · obtain ⟨j, hj, e2⟩ := (plc0_mem f p).1 h3
              have := (mayJ_at hf j hj).1; omega
      obtain ⟨r, hr⟩ := hrp
      have hA := reP_asc f
      have hL := reP_lt hf
      rw [hr] at hA hL
      have hmem : ∀ j ∈ f, j.1 ∈ ((-1 : Int) :: r) := by rw [← hr]; exact hsub
      clear hm1 hsub
      have := tell_val (reV f t) 1125899906842624 (-1 :: r) 0 (-1) hA (fun p hp => ⟨by rcases List.mem_cons.1 hp with rfl | hp; omega; exact Int.le_of_lt ((List.pairwise_cons.1 hA).1 p hp), hL p hp⟩) (fun s v k1 k2 k3 k4 => by
        unfold reV
        by_cases h1 : -1 < t ∧ v < t
        · rw [if_pos h1, if_pos ⟨h1.1, by omega⟩]
        · by_cases h2 : -1 < t ∧ s < t
          · rw [if_pos h2, if_neg h1]
            exact jv_between (by omega) (fun j hj => by have := k4 _ (hmem j hj); omega)
          · rw [if_neg h2, if_neg h1]
            exact jv_between k2 (fun j hj => k4 _ (hmem j hj))) (fun v k1 k2 k3 => by have := k3 (-1) (by simp); omega) u hu1 hu
      rw [hr, this]; omega
    by_cases hu1 : -1 ≤ u
    · rw [hT hu1]
      have e1 : jv (reC f t) u = js (cutL f t) + jv (cutR f t) u := by
        unfold reC; split
        · rw [jv, if_pos (by simp only; omega)]
        · rename_i h0; simp only [ne_eq, Decidable.not_not] at h0; rw [h0]; omega
      rw [e1]
      unfold reV
      by_cases h1 : -1 < t ∧ u < t
      · rw [if_pos h1, jv_low (f := cutR f t) (fun j hj => by have := cutR_ge hc.1 t j hj; omega), cutL_js hc.1]; omega
      · rw [if_neg h1]
        have e2 := jv_append (cutL f t) (cutR f t) u
        rw [cut_eq] at e2
        rw [e2]
        by_cases h2 : -1 < t
        · rw [jv_high (f := cutL f t) (fun j hj => by have := cutL_lt f t j hj; omega)]
        · rw [hbase (by omega), jv_low (f := cutL f t) (fun j hj => by have := cutL_lt f t j hj; have := (mayJ_at hf j (hinL j hj)).1; omega)]
    · rw [jv_low, jv_low]
      · intro j hj
        rcases (ins_mem _ _ _).1 (tell_mem _ _ _ j hj).1 with h | h
        · omega
        · obtain ⟨k, hk, e2⟩ := (plc0_mem f j.1).1 h
          have := (mayJ_at hf k hk).1; omega
      · intro j hj
        unfold reC at hj
        split at hj
        · rcases List.mem_cons.1 hj with rfl | hj
          · simp only; omega
          · have := (mayJ_at hf j (hin j hj)).1; omega
        · have := (mayJ_at hf j (hin j hj)).1; omega
/-! ### Values -/
def atV (f : List Jp) (t : Int) : Int := if mayJ f then jv f t else 0
def leF (f : List Jp) (m : Int) (g : List Jp) : Int := g.foldl (fun m j => min m (jv f j.1)) m
def leV (f : List Jp) : Int := if mayJ f then leF f (jv f (-1)) f else 0
theorem leF_snoc (f : List Jp) (m : Int) (g : List Jp) (j : Jp) : leF f m (g ++ [j]) = min (leF f m g) (jv f j.1) := by simp [leF]
/-- The sum behind a jump is the value there. -/
theorem js_at {f1 f2 : List Jp} {j : Jp} (h : Asc (f1 ++ j :: f2)) : js (f1 ++ [j]) = jv (f1 ++ j :: f2) j.1 := by
  have h1 := (List.pairwise_append.1 h).2.2
  have h2 := (List.pairwise_cons.1 (List.pairwise_append.1 h).2.1).1
  rw [jv_append, jv, if_pos (Int.le_refl _), jv_low h2, jv_high (fun a ha => Int.le_of_lt (h1 a ha j (by simp))), js_snoc]; omega
end Go.Proofs.YtljkneajdndgjaaGreat
