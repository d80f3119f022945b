/-
  A helper of ours: no claim of its own. Layer 9 (step): what each call makes of step functions, as lists: jumps put together, two functions at once, parts. No program in it.
-/
import Derived.Test.YtljkneajdndgjabGreatStepS
set_option linter.unusedVariables false
set_option linter.unusedSimpArgs false
namespace Go.Proofs.YtljkneajdndgjabGreat
open Go.RowKit
theorem tell_lt (v : Int → Int) (F : Int) (ps : List Int) (was : Int) (h : ∀ p ∈ ps, p < F) : ∀ j ∈ tell v ps was, j.1 < F := fun j hj => h _ (tell_mem v ps was j hj).1
theorem Asc.nil' : ([] : List Int).Pairwise (· < ·) := List.Pairwise.nil
/-! ### Norm -/
def tooJ (j : Jp) : Bool := decide (1048576 < j.2 ∨ j.2 < -1048576)
def nowJ (j : Jp) : Bool := decide (j.1 < -1 ∨ 1125899906842624 < j.1)
def inF (l : List Jp) : List Jp := l.filter fun j => decide (j.1 ≠ 1125899906842624)
def nmL (l : List Jp) : List Jp := tell (jv l) (plc [] (inF l)) 0
/-- What is wrong with jumps that are put together. -/
def nmE (l : List Jp) : Int := if l.any tooJ then 2 else if l.any nowJ then 13 else full (nmL l)
def nmR (l : List Jp) : List Jp := if nmE l = 0 then nmL l else []
theorem nmL_val (l : List Jp) (h : ∀ j ∈ l, nowJ j = false) (t : Int) (ht : t < 1125899906842624) : jv (nmL l) t = jv l t := by
  have hm : ∀ x, x ∈ plc [] (inF l) ↔ ∃ j ∈ inF l, j.1 = x := fun x => by rw [plc_mem]; simp
  have hmem : ∀ j ∈ l, j.1 ≠ 1125899906842624 → j.1 ∈ plc [] (inF l) := fun j hj h0 => (hm _).2 ⟨j, by simp [inF, hj, h0], rfl⟩
  have hle : ∀ j ∈ l, j.1 ≤ 1125899906842624 := fun j hj => by have := h j hj; unfold nowJ at this; rw [decide_eq_false_iff_not] at this; omega
  refine tell_all (jv l) 1125899906842624 _ (plc_asc _ _ Asc.nil') (fun p hp => ?_) (fun s u h1 h2 h3 => ?_) (fun u h1 h2 => ?_) t ht
  · obtain ⟨j, hj, rfl⟩ := (hm p).1 hp
    simp only [inF, List.mem_filter, decide_eq_true_eq] at hj
    have := hle j hj.1; omega
  · refine jv_between h1 fun j hj => ?_
    by_cases h0 : j.1 = 1125899906842624
    · right; omega
    · exact h3 _ (hmem j hj h0)
  · refine jv_low fun j hj => ?_
    by_cases h0 : j.1 = 1125899906842624
    · omega
    · exact h2 _ (hmem j hj h0)
theorem nmL_lt (l : List Jp) (h : ∀ j ∈ l, nowJ j = false) : ∀ j ∈ nmL l, j.1 < 1125899906842624 := by
  refine tell_lt _ _ _ _ fun p hp => ?_
  obtain ⟨j, hj, rfl⟩ := ((plc_mem _ _ _).1 hp).resolve_left (by simp)
  simp only [inF, List.mem_filter, decide_eq_true_eq] at hj
  have := h j hj.1; unfold nowJ at this; rw [decide_eq_false_iff_not] at this; omega
/-- One more, in order. -/
def addS (acc : List Jp) (j : Jp) : List Jp := match acc.getLast? with
  | none => [j]
  | some k => if k.1 = j.1 then acc.dropLast ++ [(k.1, k.2 + j.2)] else acc ++ [j]
def addup (s : List Jp) : List Jp := s.foldl addS []
theorem addup_snoc (s : List Jp) (j : Jp) : addup (s ++ [j]) = addS (addup s) j := by simp [addup]
theorem addS_nil (j : Jp) : addS [] j = [j] := rfl
theorem addS_same (acc : List Jp) (k j : Jp) (h : k.1 = j.1) : addS (acc ++ [k]) j = acc ++ [(k.1, k.2 + j.2)] := by
  unfold addS; simp [h]
theorem addS_other (acc : List Jp) (k j : Jp) (h : ¬ k.1 = j.1) : addS (acc ++ [k]) j = acc ++ [k] ++ [j] := by
  unfold addS; simp [h]
theorem snoc_cases {α : Type} (l : List α) : l = [] ∨ ∃ m a, l = m ++ [a] := by
  rcases List.eq_nil_or_concat l with h | ⟨m, a, h⟩
  · exact .inl h
  · exact .inr ⟨m, a, by rw [h, List.concat_eq_append]⟩
/-- What was added up is in order, and its last place is that of the last one; no more than there were; and no jump is greater than all together. -/
theorem addup_inv (K : Int) (hK : 0 ≤ K) : ∀ (n : Nat) (s : List Jp), s.length = n → s.Pairwise (fun a b => a.1 ≤ b.1) → (∀ j ∈ s, -K ≤ j.2 ∧ j.2 ≤ K) →
    Asc (addup s) ∧ (addup s).length ≤ n ∧ (∀ j ∈ addup s, ∃ k ∈ s, k.1 = j.1) ∧ (∀ j ∈ addup s, -(K * n) ≤ j.2 ∧ j.2 ≤ K * n)
  | 0, s, h, _, _ => by
    obtain rfl := List.length_eq_zero_iff.1 h
    exact ⟨List.Pairwise.nil, by simp [addup], by simp [addup], by simp [addup]⟩
  | n + 1, s, h, hs, hb => by
    rcases snoc_cases s with rfl | ⟨m, j, rfl⟩
    · simp at h
    have hm : m.length = n := by simpa using h
    obtain ⟨h1, h2, h3, h4⟩ := addup_inv K hK n m hm (List.pairwise_append.1 hs).1 (fun a ha => hb a (by simp [ha]))
    have hle : ∀ a ∈ m, a.1 ≤ j.1 := fun a ha => (List.pairwise_append.1 hs).2.2 a ha j (by simp)
    have hj := hb j (by simp)
    have hlt : ∀ a ∈ addup m, a.1 ≤ j.1 := fun a ha => by obtain ⟨k, hk, e⟩ := h3 a ha; have := hle k hk; omega
    have eK : K * ((n + 1 : Nat) : Int) = K * (n : Int) + K := by push_cast; rw [Int.mul_add, Int.mul_one]
    rw [eK]
    have hKn : 0 ≤ K * (n : Int) := Int.mul_nonneg hK (by omega)
    generalize K * (n : Int) = z at *
    rw [addup_snoc]
    rcases snoc_cases (addup m) with e | ⟨p, k, e⟩
    · rw [e, addS_nil]
      exact ⟨by simp, by simp, fun a ha => by simp only [List.mem_singleton] at ha; subst ha; exact ⟨a, by simp, rfl⟩, fun a ha => by simp only [List.mem_singleton] at ha; subst ha; omega⟩
    · rw [e] at h1 h2 h3 h4 hlt ⊢
      have hpk := (List.pairwise_append.1 h1).2.2
      by_cases hk : k.1 = j.1
      · rw [addS_same _ _ _ hk]
        refine ⟨List.pairwise_append.2 ⟨(List.pairwise_append.1 h1).1, by simp, fun a ha b hb => ?_⟩, by simpa using (by simp at h2; omega), fun a ha => ?_, fun a ha => ?_⟩
        · simp only [List.mem_singleton] at hb; subst hb; exact hpk a ha k (by simp)
        · rcases List.mem_append.1 ha with ha | ha
          · obtain ⟨q, hq, e2⟩ := h3 a (by simp [ha]); exact ⟨q, by simp [hq], e2⟩
          · simp only [List.mem_singleton] at ha; subst ha; exact ⟨j, by simp, hk.symm⟩
        · rcases List.mem_append.1 ha with ha | ha
          · have := h4 a (by simp [ha]); omega
          · simp only [List.mem_singleton] at ha; subst ha; have := h4 k (by simp); simp only; omega
      · rw [addS_other _ _ _ hk]
        have hkj : k.1 < j.1 := by have := hlt k (by simp); omega
        refine ⟨List.pairwise_append.2 ⟨h1, by simp, fun a ha b hb => ?_⟩, by simpa using (by simp at h2; omega), fun a ha => ?_, fun a ha => ?_⟩
        · simp only [List.mem_singleton] at hb; subst hb
          rcases List.mem_append.1 ha with ha | ha
          · have := hpk a ha k (by simp); omega
          · simp only [List.mem_singleton] at ha; subst ha; exact hkj
        · rcases List.mem_append.1 ha with ha | ha
          · obtain ⟨q, hq, e2⟩ := h3 a (by simpa using ha); exact ⟨q, by simp [hq], e2⟩
          · simp only [List.mem_singleton] at ha; subst ha; exact ⟨a, by simp, rfl⟩
        · rcases List.mem_append.1 ha with ha | ha
          · have := h4 a (by simpa using ha); omega
          · simp only [List.mem_singleton] at ha; subst ha; omega
/-! ### Two at once -/
def nxt : List Jp → Int
  | [] => 1125899906842624
  | j :: _ => j.1
def opv (op : Int → Int → Int) (f g : List Jp) (t : Int) : Int := op (jv f t) (jv g t)
def opd (op : Int → Int → Int) (f g : List Jp) : List Jp := tell (opv op f g) (plc (plc [] f) g) 0
def twE (op : Int → Int → Int) (f g : List Jp) : Int := if mayJ f && mayJ g then full (opd op f g) else 2
def twR (op : Int → Int → Int) (f g : List Jp) : List Jp := if twE op f g = 0 then opd op f g else []
theorem opd_mem {f g : List Jp} {x : Int} : x ∈ plc (plc [] f) g ↔ (∃ j ∈ f, j.1 = x) ∨ ∃ j ∈ g, j.1 = x := by rw [plc_mem, plc_mem]; simp
theorem opd_lt {op : Int → Int → Int} {f g : List Jp} (hf : mayJ f = true) (hg : mayJ g = true) : ∀ j ∈ opd op f g, j.1 < 1125899906842624 := by
  refine tell_lt _ _ _ _ fun p hp => ?_
  rcases opd_mem.1 hp with ⟨j, hj, rfl⟩ | ⟨j, hj, rfl⟩
  · exact (mayJ_at hf j hj).2
  · exact (mayJ_at hg j hj).2
theorem opd_canon (op : Int → Int → Int) (f g : List Jp) : Canon (opd op f g) := tell_canon _ _ _ (plc_asc _ _ (plc_asc _ _ Asc.nil'))
theorem opd_val {op : Int → Int → Int} (h0 : op 0 0 = 0) {f g : List Jp} (hf : mayJ f = true) (hg : mayJ g = true) (t : Int) (ht : t < 1125899906842624) : jv (opd op f g) t = op (jv f t) (jv g t) := by
  refine tell_all (opv op f g) 1125899906842624 _ (plc_asc _ _ (plc_asc _ _ Asc.nil')) (fun p hp => ?_) (fun s u h1 h2 h3 => ?_) (fun u h1 h2 => ?_) t ht
  · rcases opd_mem.1 hp with ⟨j, hj, rfl⟩ | ⟨j, hj, rfl⟩
    · exact (mayJ_at hf j hj).2
    · exact (mayJ_at hg j hj).2
  · unfold opv
    rw [jv_between h1 (f := f) (fun j hj => h3 _ (opd_mem.2 (.inl ⟨j, hj, rfl⟩))), jv_between h1 (f := g) (fun j hj => h3 _ (opd_mem.2 (.inr ⟨j, hj, rfl⟩)))]
  · unfold opv
    rw [jv_low (f := f) (fun j hj => h2 _ (opd_mem.2 (.inl ⟨j, hj, rfl⟩))), jv_low (f := g) (fun j hj => h2 _ (opd_mem.2 (.inr ⟨j, hj, rfl⟩))), h0]
/-- At every place. -/
theorem opd_all {op : Int → Int → Int} (h0 : op 0 0 = 0) {f g : List Jp} (hf : mayJ f = true) (hg : mayJ g = true) (t : Int) : jv (opd op f g) t = op (jv f t) (jv g t) := by
  by_cases ht : t < 1125899906842624
  · exact opd_val h0 hf hg t ht
  · have e : ∀ k : List Jp, (∀ j ∈ k, j.1 < 1125899906842624) → jv k t = jv k 1125899906842623 := fun k hk => by
      rw [jv_high (fun j hj => by have := hk j hj; omega), jv_high (fun j hj => by have := hk j hj; omega)]
    rw [e _ (opd_lt hf hg), e f (fun j hj => (mayJ_at hf j hj).2), e g (fun j hj => (mayJ_at hg j hj).2)]
    exact opd_val h0 hf hg _ (by omega)
/-- Two functions, gone through up to a place. -/
structure Comb (op : Int → Int → Int) (f1 f2 g1 g2 made : List Jp) : Prop where
  canon : Canon made
  lt : ∀ j ∈ made, j.1 < min (nxt f2) (nxt g2)
  l1 : ∀ j ∈ f1, j.1 < min (nxt f2) (nxt g2)
  l2 : ∀ j ∈ g1, j.1 < min (nxt f2) (nxt g2)
  sum : js made = op (js f1) (js g1)
  at' : ∀ t, t < min (nxt f2) (nxt g2) → jv made t = op (jv f1 t) (jv g1 t)
  len : made.length ≤ f1.length + g1.length
theorem Comb.start {op : Int → Int → Int} (h0 : op 0 0 = 0) (f g : List Jp) : Comb op [] f [] g [] :=
  ⟨Canon.nil, by simp, by simp, by simp, by simp [js, h0], fun t _ => by simp [jv, h0], by simp⟩
/-- What is passed at a place. -/
def pasL (f2 : List Jp) (t : Int) : List Jp := match f2 with
  | [] => []
  | j :: r => if j.1 = t then [j] else []
def pasR (f2 : List Jp) (t : Int) : List Jp := match f2 with
  | [] => []
  | j :: r => if j.1 = t then r else j :: r
theorem pas_eq (f2 : List Jp) (t : Int) : pasL f2 t ++ pasR f2 t = f2 := by
  rcases f2 with _ | ⟨j, r⟩
  · rfl
  · simp only [pasL, pasR]; split <;> rfl
theorem pas_at (f2 : List Jp) (t : Int) : ∀ j ∈ pasL f2 t, j.1 = t := by
  rcases f2 with _ | ⟨j, r⟩
  · simp [pasL]
  · simp only [pasL]; split
    · rename_i h; intro k hk; simp only [List.mem_singleton] at hk; subst hk; exact h
    · simp
theorem nxt_le {f1 f2 : List Jp} (h : mayJ (f1 ++ f2) = true) : nxt f2 ≤ 1125899906842624 := by
  rcases f2 with _ | ⟨j, r⟩
  · exact Int.le_refl _
  · have := (mayJ_at h j (by simp)).2; exact Int.le_of_lt this
theorem nxt_lt {f1 f2 : List Jp} (h : mayJ (f1 ++ f2) = true) (h0 : f2 ≠ []) : nxt f2 < 1125899906842624 := by
  rcases f2 with _ | ⟨j, r⟩
  · exact absurd rfl h0
  · exact (mayJ_at h j (by simp)).2
theorem pas_next {f1 f2 : List Jp} {t : Int} (h : mayJ (f1 ++ f2) = true) (hle : t ≤ nxt f2) (ht : t < 1125899906842624) : t < nxt (pasR f2 t) := by
  rcases f2 with _ | ⟨j, r⟩
  · exact ht
  · simp only [pasR]
    split
    · rename_i e
      have h2 := mayJ_right h
      rcases r with _ | ⟨k, r⟩
      · exact ht
      · have := (List.pairwise_cons.1 (mayJ_iff.1 h2).2.2).1 k (by simp); simp only [nxt]; omega
    · simp only [nxt] at hle ⊢; omega
theorem pas_jv {f1 f2 : List Jp} {t u : Int} (hu : u < t) : jv (f1 ++ pasL f2 t) u = jv f1 u := by
  rw [jv_append, jv_low (f := pasL f2 t) (fun j hj => by rw [pas_at f2 t j hj]; exact hu)]; omega
/-- One place more. -/
theorem Comb.step {op : Int → Int → Int} {f1 f2 g1 g2 made : List Jp} (h : Comb op f1 f2 g1 g2 made) (hf : mayJ (f1 ++ f2) = true) (hg : mayJ (g1 ++ g2) = true) (h0 : ¬ (f2 = [] ∧ g2 = [])) (t : Int) (ht : t = min (nxt f2) (nxt g2)) :
    Comb op (f1 ++ pasL f2 t) (pasR f2 t) (g1 ++ pasL g2 t) (pasR g2 t)
      (if op (js (f1 ++ pasL f2 t)) (js (g1 ++ pasL g2 t)) = op (js f1) (js g1) then made else made ++ [(t, op (js (f1 ++ pasL f2 t)) (js (g1 ++ pasL g2 t)) - op (js f1) (js g1))]) := by
  have htF : t < 1125899906842624 := by
    have h1 := nxt_le hf
    have h2 := nxt_le hg
    by_cases e : f2 = []
    · have h3 := nxt_lt hg (fun e2 => h0 ⟨e, e2⟩); omega
    · have h3 := nxt_lt hf e; omega
  have n1 := pas_next (t := t) hf (by omega) htF
  have n2 := pas_next (t := t) hg (by omega) htF
  have hlt : ∀ j ∈ made, j.1 < t := fun j hj => by rw [ht]; exact h.lt j hj
  have hf1 : ∀ j ∈ f1 ++ pasL f2 t, j.1 ≤ t := fun j hj => by
    rcases List.mem_append.1 hj with hj | hj
    · have := h.l1 j hj; omega
    · have := pas_at f2 t j hj; omega
  have hg1 : ∀ j ∈ g1 ++ pasL g2 t, j.1 ≤ t := fun j hj => by
    rcases List.mem_append.1 hj with hj | hj
    · have := h.l2 j hj; omega
    · have := pas_at g2 t j hj; omega
  obtain ⟨x, hx⟩ : ∃ x, x = op (js (f1 ++ pasL f2 t)) (js (g1 ++ pasL g2 t)) := ⟨_, rfl⟩
  have hsum := h.sum
  rw [← hx, ← hsum]
  have hlen := h.len
  refine ⟨?_, ?_, fun j hj => by have := hf1 j hj; omega, fun j hj => by have := hg1 j hj; omega, ?_, fun u hu => ?_, ?_⟩
  · split
    · exact h.canon
    · exact h.canon.snoc (by simpa using hlt) (by simp only; omega)
  · intro j hj
    have : j.1 ≤ t := by
      split at hj
      · exact Int.le_of_lt (hlt j hj)
      · rcases List.mem_append.1 hj with hj | hj
        · exact Int.le_of_lt (hlt j hj)
        · simp only [List.mem_singleton] at hj; subst hj; exact Int.le_refl _
    omega
  · split
    · rename_i e; exact e.symm.trans hx
    · rw [js_snoc, ← hx]; simp only; omega
  · by_cases hut : u < t
    · have e : jv (if x = js made then made else made ++ [(t, x - js made)]) u = jv made u := by
        split
        · rfl
        · rw [jv_snoc, if_neg (by simp only; omega)]; omega
      rw [e, pas_jv hut, pas_jv hut]
      exact h.at' u (by omega)
    · have e1 := jv_high (f := f1 ++ pasL f2 t) (t := u) (fun j hj => by have := hf1 j hj; omega)
      have e2 := jv_high (f := g1 ++ pasL g2 t) (t := u) (fun j hj => by have := hg1 j hj; omega)
      have e3 := jv_high (f := made) (t := u) (fun j hj => by have := hlt j hj; omega)
      rw [e1, e2, ← hx]
      split
      · rename_i e; rw [e3, e]
      · rw [jv_snoc, if_pos (by simp only; omega), e3]; simp only; omega
  · rcases f2 with _ | ⟨j, r⟩
    · rcases g2 with _ | ⟨k, s⟩
      · exact absurd ⟨rfl, rfl⟩ h0
      · have e : k.1 = t := by have := nxt_le hg; simp only [nxt] at ht this; omega
        simp only [pasL, if_pos e, List.length_append, List.length_cons, List.length_nil]
        split
        · omega
        · simp; omega
    · by_cases e : j.1 = t
      · simp only [pasL, if_pos e, List.length_append, List.length_cons, List.length_nil]
        split
        · omega
        · simp; omega
      · rcases g2 with _ | ⟨k, s⟩
        · exfalso; have := nxt_le hf; simp only [nxt] at ht this; omega
        · have e' : k.1 = t := by simp only [nxt] at ht; omega
          simp only [pasL, if_neg e, if_pos e', List.length_append, List.length_cons, List.length_nil]
          split
          · omega
          · simp; omega
/-- At the end. -/
theorem Comb.done {op : Int → Int → Int} (h0 : op 0 0 = 0) {f g made : List Jp} (h : Comb op f [] g [] made) (hf : mayJ f = true) (hg : mayJ g = true) : made = opd op f g := by
  refine one_form h.canon (opd_canon op f g) (fun j hj => by have := h.lt j hj; simp only [nxt] at this; omega) (opd_lt hf hg) (fun t ht => ?_)
  rw [opd_val h0 hf hg t ht]
  exact h.at' t (by simp only [nxt]; omega)
/-! ### The other sign; parts -/
/-- The jumps ahead of a place, those from it on. -/
def cutL (f : List Jp) (t : Int) : List Jp := f.takeWhile fun j => decide (j.1 < t)
def cutR (f : List Jp) (t : Int) : List Jp := f.dropWhile fun j => decide (j.1 < t)
theorem cut_eq (f : List Jp) (t : Int) : cutL f t ++ cutR f t = f := List.takeWhile_append_dropWhile
theorem cutL_lt (f : List Jp) (t : Int) : ∀ j ∈ cutL f t, j.1 < t := by
  induction f with
  | nil => simp [cutL]
  | cons a r ih =>
    intro j hj
    unfold cutL at hj ih
    rw [List.takeWhile_cons] at hj
    split at hj
    · rename_i e
      rcases List.mem_cons.1 hj with rfl | hj
      · simpa using e
      · exact ih j hj
    · simp at hj
theorem cutR_ge {f : List Jp} (h : Asc f) (t : Int) : ∀ j ∈ cutR f t, t ≤ j.1 := by
  induction f with
  | nil => simp [cutR]
  | cons a r ih =>
    intro j hj
    unfold cutR at hj ih
    rw [List.dropWhile_cons] at hj
    split at hj
    · exact ih (List.pairwise_cons.1 h).2 j hj
    · rename_i e
      simp only [decide_eq_true_eq] at e
      rcases List.mem_cons.1 hj with rfl | hj
      · omega
      · have := (List.pairwise_cons.1 h).1 j hj; omega
def ahV (f : List Jp) (t p : Int) : Int := if p < t then jv f p else 0
def ahP (f : List Jp) (t : Int) : List Int := if -1 ≤ t ∧ t < 1125899906842624 then ins (plc [] f) t else plc [] f
def ahL (f : List Jp) (t : Int) : List Jp := tell (ahV f t) (ahP f t) 0
def ahE (f : List Jp) (t : Int) : Int := if mayJ f then full (ahL f t) else 2
def ahR (f : List Jp) (t : Int) : List Jp := if ahE f t = 0 then ahL f t else []
theorem plc0_mem (f : List Jp) (x : Int) : x ∈ plc [] f ↔ ∃ j ∈ f, j.1 = x := by rw [plc_mem]; simp
theorem ahP_asc (f : List Jp) (t : Int) : (ahP f t).Pairwise (· < ·) := by
  unfold ahP; split
  · exact ins_asc _ (plc_asc _ _ Asc.nil')
  · exact plc_asc _ _ Asc.nil'
theorem ahP_lt {f : List Jp} (hf : mayJ f = true) (t : Int) : ∀ p ∈ ahP f t, p < 1125899906842624 := by
  have h : ∀ p ∈ plc [] f, p < 1125899906842624 := fun p hp => by obtain ⟨j, hj, rfl⟩ := (plc0_mem f p).1 hp; exact (mayJ_at hf j hj).2
  intro p hp
  unfold ahP at hp
  split at hp
  · rename_i e; rcases (ins_mem _ _ _).1 hp with rfl | hp
    · exact e.2
    · exact h p hp
  · exact h p hp
theorem ahP_sub (f : List Jp) (t : Int) : ∀ j ∈ f, j.1 ∈ ahP f t := by
  intro j hj
  have := (plc0_mem f j.1).2 ⟨j, hj, rfl⟩
  unfold ahP; split
  · exact (ins_mem _ _ _).2 (.inr this)
  · exact this
theorem ahL_val {f : List Jp} (hf : mayJ f = true) (t u : Int) (hu : u < 1125899906842624) : jv (ahL f t) u = ahV f t u := by
  refine tell_all (ahV f t) 1125899906842624 _ (ahP_asc f t) (ahP_lt hf t) (fun s u h1 h2 h3 => ?_) (fun u h1 h2 => ?_) u hu
  · have e := jv_between h1 (f := f) (fun j hj => h3 _ (ahP_sub f t j hj))
    unfold ahV
    by_cases hs : s < t
    · by_cases ht : u < t
      · rw [if_pos hs, if_pos ht, e]
      · have hnot : ¬ (-1 ≤ t ∧ t < 1125899906842624) := fun h => by
          have := h3 t (by unfold ahP; rw [if_pos h]; exact (ins_mem _ _ _).2 (.inl rfl)); omega
        rw [if_pos hs, if_neg ht]
        exact jv_low fun j hj => by have := (mayJ_at hf j hj).1; omega
    · rw [if_neg hs, if_neg (by omega)]
  · unfold ahV
    split
    · exact jv_low fun j hj => h2 _ (ahP_sub f t j hj)
    · rfl
def ahC (f : List Jp) (t : Int) : List Jp := if js (cutL f t) ≠ 0 ∧ t < 1125899906842624 then cutL f t ++ [(t, -js (cutL f t))] else cutL f t
theorem cut_jv {f : List Jp} (h : Asc f) {t u : Int} (hu : u < t) : jv (cutL f t) u = jv f u := by
  have := jv_append (cutL f t) (cutR f t) u
  rw [cut_eq, jv_low (f := cutR f t) (fun j hj => by have := cutR_ge h t j hj; omega)] at this
  omega
theorem cutL_canon {f : List Jp} (h : Canon f) (t : Int) : Canon (cutL f t) := ⟨h.1.sublist (List.takeWhile_sublist _), fun j hj => h.2 j ((List.takeWhile_sublist _).subset hj)⟩
theorem ahead_code {f : List Jp} (hf : mayJ f = true) (t : Int) : ahC f t = ahL f t := by
  have hc := mayJ_canon hf
  have hL := cutL_canon hc t
  have hin : ∀ j ∈ cutL f t, j ∈ f := fun j hj => (List.takeWhile_sublist _).subset hj
  refine one_form ?_ (tell_canon _ _ _ (ahP_asc f t)) ?_ (tell_lt _ _ _ _ (ahP_lt hf t)) (fun u hu => ?_)
  · unfold ahC; split
    · exact hL.snoc (cutL_lt f t) (by simp only; omega)
    · exact hL
  · intro j hj
    unfold ahC at hj
    split at hj
    · rcases List.mem_append.1 hj with hj | hj
      · exact (mayJ_at hf j (hin j hj)).2
      · simp only [List.mem_singleton] at hj; subst hj; simp only; omega
    · exact (mayJ_at hf j (hin j hj)).2
  · show _ = jv (ahL f t) u
    rw [ahL_val hf t u hu]
    unfold ahV ahC
    by_cases hut : u < t
    · rw [if_pos hut]
      split
      · rw [jv_snoc, if_neg (by simp only; omega), cut_jv hc.1 hut]; omega
      · exact cut_jv hc.1 hut
    · rw [if_neg hut]
      have e := jv_high (f := cutL f t) (t := u) (fun j hj => by have := cutL_lt f t j hj; omega)
      split
      · rw [jv_snoc, if_pos (by simp only; omega), e]; simp only; omega
      · rw [e]; omega
/-! ### Values -/
def atV (f : List Jp) (t : Int) : Int := if mayJ f then jv f t else 0
def leF (f : List Jp) (m : Int) (g : List Jp) : Int := g.foldl (fun m j => min m (jv f j.1)) m
def leV (f : List Jp) : Int := if mayJ f then leF f (jv f (-1)) f else 0
theorem leF_snoc (f : List Jp) (m : Int) (g : List Jp) (j : Jp) : leF f m (g ++ [j]) = min (leF f m g) (jv f j.1) := by simp [leF]
/-- The sum behind a jump is the value there. -/
theorem js_at {f1 f2 : List Jp} {j : Jp} (h : Asc (f1 ++ j :: f2)) : js (f1 ++ [j]) = jv (f1 ++ j :: f2) j.1 := by
  have h1 := (List.pairwise_append.1 h).2.2
  have h2 := (List.pairwise_cons.1 (List.pairwise_append.1 h).2.1).1
  rw [jv_append, jv, if_pos (Int.le_refl _), jv_low h2, jv_high (fun a ha => Int.le_of_lt (h1 a ha j (by simp))), js_snoc]; omega
end Go.Proofs.YtljkneajdndgjabGreat
