/-
  A helper of ours: no claim of its own. Layer 9 (step): jumps where they lie; what is a step function, on both sides.
-/
import Derived.Test.YtljkneajdndgjabGreatStepS
import Derived.Test.YtljkneajdndgjabGreatMem
import Derived.ChangeSlices
import Derived.Deep.SlicePairs
import Derived.Deep.Matrix
import Derived.SizedLaws
import Derived.Test.YtljkneajdndgjabGreatRows
import Derived.Handy
import Derived.WalkSpells
import Derived.WalkSmall
import Derived.Deep.LoopGhost
import Derived.BigQuiet
import Derived.WalkLawsBesides
set_option linter.unusedVariables false
set_option linter.unusedSimpArgs false
namespace Go.Proofs.YtljkneajdndgjabGreat
open Go.RowKit
theorem tell_lt (v : Int → Int) (F : Int) (ps : List Int) (was : Int) (h : ∀ p ∈ ps, p < F) : ∀ j ∈ tell v ps was, j.1 < F := fun j hj => h _ (tell_mem v ps was j hj).1
theorem Asc.nil' : ([] : List Int).Pairwise (· < ·) := List.Pairwise.nil
/-! ### Norm -/
def tooJ (j : Jp) : Bool := decide (1048576 < j.2 ∨ j.2 < -1048576)
def nowJ (j : Jp) : Bool := decide (j.1 < -1 ∨ 1125899906842624 < j.1)
def inF (l : List Jp) : List Jp := l.filter fun j => decide (j.1 ≠ 1125899906842624)
def nmL (l : List Jp) : List Jp := tell (jv l) (plc [] (inF l)) 0
/-- What is wrong with jumps that are put together. -/
def nmE (l : List Jp) : Int := if l.any tooJ then 2 else if l.any nowJ then 13 else full (nmL l)
def nmR (l : List Jp) : List Jp := if nmE l = 0 then nmL l else []
theorem nmL_val (l : List Jp) (h : ∀ j ∈ l, nowJ j = false) (t : Int) (ht : t < 1125899906842624) : jv (nmL l) t = jv l t := by
  have hm : ∀ x, x ∈ plc [] (inF l) ↔ ∃ j ∈ inF l, j.1 = x := fun x => by rw [plc_mem]; simp
  have hmem : ∀ j ∈ l, j.1 ≠ 1125899906842624 → j.1 ∈ plc [] (inF l) := fun j hj h0 => (hm _).2 ⟨j, by simp [inF, hj, h0], rfl⟩
  have hle : ∀ j ∈ l, j.1 ≤ 1125899906842624 := fun j hj => by have := h j hj; unfold nowJ at this; rw [decide_eq_false_iff_not] at this; omega
  refine tell_all (jv l) 1125899906842624 _ (plc_asc _ _ Asc.nil') (fun p hp => ?_) (fun s u h1 h2 h3 => ?_) (fun u h1 h2 => ?_) t ht
  · obtain ⟨j, hj, rfl⟩ := (hm p).1 hp
    simp only [inF, List.mem_filter, decide_eq_true_eq] at hj
    have := hle j hj.1; omega
  · refine jv_between h1 fun j hj => ?_
    by_cases h0 : j.1 = 1125899906842624
    · right; omega
    · exact h3 _ (hmem j hj h0)
  · refine jv_low fun j hj => ?_
    by_cases h0 : j.1 = 1125899906842624
    · omega
    · exact h2 _ (hmem j hj h0)
theorem nmL_lt (l : List Jp) (h : ∀ j ∈ l, nowJ j = false) : ∀ j ∈ nmL l, j.1 < 1125899906842624 := by
  refine tell_lt _ _ _ _ fun p hp => ?_
  obtain ⟨j, hj, rfl⟩ := ((plc_mem _ _ _).1 hp).resolve_left (by simp)
  simp only [inF, List.mem_filter, decide_eq_true_eq] at hj
  have := h j hj.1; unfold nowJ at this; rw [decide_eq_false_iff_not] at this; omega
/-- One more, in order. -/
def addS (acc : List Jp) (j : Jp) : List Jp := match acc.getLast? with
  | none => [j]
  | some k => if k.1 = j.1 then acc.dropLast ++ [(k.1, k.2 + j.2)] else acc ++ [j]
def addup (s : List Jp) : List Jp := s.foldl addS []
theorem addup_snoc (s : List Jp) (j : Jp) : addup (s ++ [j]) = addS (addup s) j := by simp [addup]
theorem addS_nil (j : Jp) : addS [] j = [j] := rfl
theorem addS_same (acc : List Jp) (k j : Jp) (h : k.1 = j.1) : addS (acc ++ [k]) j = acc ++ [(k.1, k.2 + j.2)] := by
  unfold addS; simp [h]
theorem addS_other (acc : List Jp) (k j : Jp) (h : ¬ k.1 = j.1) : addS (acc ++ [k]) j = acc ++ [k] ++ [j] := by
  unfold addS; simp [h]
theorem snoc_cases {α : Type} (l : List α) : l = [] ∨ ∃ m a, l = m ++ [a] := by
  rcases List.eq_nil_or_concat l with h | ⟨m, a, h⟩
  · exact .inl h
  · exact .inr ⟨m, a, by rw [h, List.concat_eq_append]⟩
/-- What was added up is in order, and its last place is that of the last one; no more than there were; and no jump is greater than all together. -/
theorem addup_inv (K : Int) (hK : 0 ≤ K) : ∀ (n : Nat) (s : List Jp), s.length = n → s.Pairwise (fun a b => a.1 ≤ b.1) → (∀ j ∈ s, -K ≤ j.2 ∧ j.2 ≤ K) →
    Asc (addup s) ∧ (addup s).length ≤ n ∧ (∀ j ∈ addup s, ∃ k ∈ s, k.1 = j.1) ∧ (∀ j ∈ addup s, -(K * n) ≤ j.2 ∧ j.2 ≤ K * n)
  | 0, s, h, _, _ => by
    obtain rfl := List.length_eq_zero_iff.1 h
    exact ⟨List.Pairwise.nil, by simp [addup], by simp [addup], by simp [addup]⟩
  | n + 1, s, h, hs, hb => by
    rcases snoc_cases s with rfl | ⟨m, j, rfl⟩
    · simp at h
    have hm : m.length = n := by simpa using h
    obtain ⟨h1, h2, h3, h4⟩ := addup_inv K hK n m hm (List.pairwise_append.1 hs).1 (fun a ha => hb a (by simp [ha]))
    have hle : ∀ a ∈ m, a.1 ≤ j.1 := fun a ha => (List.pairwise_append.1 hs).2.2 a ha j (by simp)
    have hj := hb j (by simp)
    have hlt : ∀ a ∈ addup m, a.1 ≤ j.1 := fun a ha => by obtain ⟨k, hk, e⟩ := h3 a ha; have := hle k hk; omega
    have eK : K * ((n + 1 : Nat) : Int) = K * (n : Int) + K := by push_cast; rw [Int.mul_add, Int.mul_one]
    rw [eK]
    have hKn : 0 ≤ K * (n : Int) := Int.mul_nonneg hK (by omega)
    generalize K * (n : Int) = z at *
    rw [addup_snoc]
    rcases snoc_cases (addup m) with e | ⟨p, k, e⟩
    · rw [e, addS_nil]
      exact ⟨by simp, by simp, fun a ha => by simp only [List.mem_singleton] at ha; subst ha; exact ⟨a, by simp, rfl⟩, fun a ha => by simp only [List.mem_singleton] at ha; subst ha; omega⟩
    · rw [e] at h1 h2 h3 h4 hlt ⊢
      have hpk := (List.pairwise_append.1 h1).2.2
      by_cases hk : k.1 = j.1
      · rw [addS_same _ _ _ hk]
        refine ⟨List.pairwise_append.2 ⟨(List.pairwise_append.1 h1).1, by simp, fun a ha b hb => ?_⟩, by simpa using (by simp at h2; omega), fun a ha => ?_, fun a ha => ?_⟩
        · simp only [List.mem_singleton] at hb; subst hb; exact hpk a ha k (by simp)
        · rcases List.mem_append.1 ha with ha | ha
          · obtain ⟨q, hq, e2⟩ := h3 a (by simp [ha]); exact ⟨q, by simp [hq], e2⟩
          · simp only [List.mem_singleton] at ha; subst ha; exact ⟨j, by simp, hk.symm⟩
        · rcases List.mem_append.1 ha with ha | ha
          · have := h4 a (by simp [ha]); omega
          · simp only [List.mem_singleton] at ha; subst ha; have := h4 k (by simp); simp only; omega
      · rw [addS_other _ _ _ hk]
        have hkj : k.1 < j.1 := by have := hlt k (by simp); omega
        refine ⟨List.pairwise_append.2 ⟨h1, by simp, fun a ha b hb => ?_⟩, by simpa using (by simp at h2; omega), fun a ha => ?_, fun a ha => ?_⟩
        · simp only [List.mem_singleton] at hb; subst hb
          rcases List.mem_append.1 ha with ha | ha
          · have := hpk a ha k (by simp); omega
          · simp only [List.mem_singleton] at ha; subst ha; exact hkj
        · rcases List.mem_append.1 ha with ha | ha
          · obtain ⟨q, hq, e2⟩ := h3 a (by simpa using ha); exact ⟨q, by simp [hq], e2⟩
          · simp only [List.mem_singleton] at ha; subst ha; exact ⟨a, by simp, rfl⟩
        · rcases List.mem_append.1 ha with ha | ha
          · have := h4 a (by simpa using ha); omega
          · simp only [List.mem_singleton] at ha; subst ha; omega
/-! ### Two at once -/
def nxt : List Jp → Int
  | [] => 1125899906842624
  | j :: _ => j.1
def opv (op : Int → Int → Int) (f g : List Jp) (t : Int) : Int := op (jv f t) (jv g t)
def opd (op : Int → Int → Int) (f g : List Jp) : List Jp := tell (opv op f g) (plc (plc [] f) g) 0
def twE (op : Int → Int → Int) (f g : List Jp) : Int := if mayJ f && mayJ g then full (opd op f g) else 2
def twR (op : Int → Int → Int) (f g : List Jp) : List Jp := if twE op f g = 0 then opd op f g else []
theorem opd_mem {f g : List Jp} {x : Int} : x ∈ plc (plc [] f) g ↔ (∃ j ∈ f, j.1 = x) ∨ ∃ j ∈ g, j.1 = x := by rw [plc_mem, plc_mem]; simp
theorem opd_lt {op : Int → Int → Int} {f g : List Jp} (hf : mayJ f = true) (hg : mayJ g = true) : ∀ j ∈ opd op f g, j.1 < 1125899906842624 := by
  refine tell_lt _ _ _ _ fun p hp => ?_
  rcases opd_mem.1 hp with ⟨j, hj, rfl⟩ | ⟨j, hj, rfl⟩
  · exact (mayJ_at hf j hj).2
  · exact (mayJ_at hg j hj).2
theorem opd_canon (op : Int → Int → Int) (f g : List Jp) : Canon (opd op f g) := tell_canon _ _ _ (plc_asc _ _ (plc_asc _ _ Asc.nil'))
theorem opd_val {op : Int → Int → Int} (h0 : op 0 0 = 0) {f g : List Jp} (hf : mayJ f = true) (hg : mayJ g = true) (t : Int) (ht : t < 1125899906842624) : jv (opd op f g) t = op (jv f t) (jv g t) := by
  refine tell_all (opv op f g) 1125899906842624 _ (plc_asc _ _ (plc_asc _ _ Asc.nil')) (fun p hp => ?_) (fun s u h1 h2 h3 => ?_) (fun u h1 h2 => ?_) t ht
  · rcases opd_mem.1 hp with ⟨j, hj, rfl⟩ | ⟨j, hj, rfl⟩
    · exact (mayJ_at hf j hj).2
    · exact (mayJ_at hg j hj).2
  · unfold opv
    rw [jv_between h1 (f := f) (fun j hj => h3 _ (opd_mem.2 (.inl ⟨j, hj, rfl⟩))), jv_between h1 (f := g) (fun j hj => h3 _ (opd_mem.2 (.inr ⟨j, hj, rfl⟩)))]
  · unfold opv
    rw [jv_low (f := f) (fun j hj => h2 _ (opd_mem.2 (.inl ⟨j, hj, rfl⟩))), jv_low (f := g) (fun j hj => h2 _ (opd_mem.2 (.inr ⟨j, hj, rfl⟩))), h0]
/-- At every place. -/
theorem opd_all {op : Int → Int → Int} (h0 : op 0 0 = 0) {f g : List Jp} (hf : mayJ f = true) (hg : mayJ g = true) (t : Int) : jv (opd op f g) t = op (jv f t) (jv g t) := by
  by_cases ht : t < 1125899906842624
  · exact opd_val h0 hf hg t ht
  · have e : ∀ k : List Jp, (∀ j ∈ k, j.1 < 1125899906842624) → jv k t = jv k 1125899906842623 := fun k hk => by
      rw [jv_high (fun j hj => by have := hk j hj; omega), jv_high (fun j hj => by have := hk j hj; omega)]
    rw [e _ (opd_lt hf hg), e f (fun j hj => (mayJ_at hf j hj).2), e g (fun j hj => (mayJ_at hg j hj).2)]
    exact opd_val h0 hf hg _ (by omega)
/-- Two functions, gone through up to a place. -/
structure Comb (op : Int → Int → Int) (f1 f2 g1 g2 made : List Jp) : Prop where
  canon : Canon made
  lt : ∀ j ∈ made, j.1 < min (nxt f2) (nxt g2)
  l1 : ∀ j ∈ f1, j.1 < min (nxt f2) (nxt g2)
  l2 : ∀ j ∈ g1, j.1 < min (nxt f2) (nxt g2)
  sum : js made = op (js f1) (js g1)
  at' : ∀ t, t < min (nxt f2) (nxt g2) → jv made t = op (jv f1 t) (jv g1 t)
  len : made.length ≤ f1.length + g1.length
theorem Comb.start {op : Int → Int → Int} (h0 : op 0 0 = 0) (f g : List Jp) : Comb op [] f [] g [] :=
  ⟨Canon.nil, by simp, by simp, by simp, by simp [js, h0], fun t _ => by simp [jv, h0], by simp⟩
/-- What is passed at a place. -/
def pasL (f2 : List Jp) (t : Int) : List Jp := match f2 with
  | [] => []
  | j :: r => if j.1 = t then [j] else []
def pasR (f2 : List Jp) (t : Int) : List Jp := match f2 with
  | [] => []
  | j :: r => if j.1 = t then r else j :: r
theorem pas_eq (f2 : List Jp) (t : Int) : pasL f2 t ++ pasR f2 t = f2 := by
  rcases f2 with _ | ⟨j, r⟩
  · rfl
  · simp only [pasL, pasR]; split <;> rfl
theorem pas_at (f2 : List Jp) (t : Int) : ∀ j ∈ pasL f2 t, j.1 = t := by
  rcases f2 with _ | ⟨j, r⟩
  · simp [pasL]
  · simp only [pasL]; split
    · rename_i h; intro k hk; simp only [List.mem_singleton] at hk; subst hk; exact h
    · simp
theorem nxt_le {f1 f2 : List Jp} (h : mayJ (f1 ++ f2) = true) : nxt f2 ≤ 1125899906842624 := by
  rcases f2 with _ | ⟨j, r⟩
  · exact Int.le_refl _
  · have := (mayJ_at h j (by simp)).2; exact Int.le_of_lt this
theorem nxt_lt {f1 f2 : List Jp} (h : mayJ (f1 ++ f2) = true) (h0 : f2 ≠ []) : nxt f2 < 1125899906842624 := by
  rcases f2 with _ | ⟨j, r⟩
  · exact absurd rfl h0
  · exact (mayJ_at h j (by simp)).2
theorem pas_next {f1 f2 : List Jp} {t : Int} (h : mayJ (f1 ++ f2) = true) (hle : t ≤ nxt f2) (ht : t < 1125899906842624) : t < nxt (pasR f2 t) := by
  rcases f2 with _ | ⟨j, r⟩
  · exact ht
  · simp only [pasR]
    split
    · rename_i e
      have h2 := mayJ_right h
      rcases r with _ | ⟨k, r⟩
      · exact ht
      · have := (List.pairwise_cons.1 (mayJ_iff.1 h2).2.2).1 k (by simp); simp only [nxt]; omega
    · simp only [nxt] at hle ⊢; omega
theorem pas_jv {f1 f2 : List Jp} {t u : Int} (hu : u < t) : jv (f1 ++ pasL f2 t) u = jv f1 u := by
  rw [jv_append, jv_low (f := pasL f2 t) (fun j hj => by rw [pas_at f2 t j hj]; exact hu)]; omega
/-- One place more. -/
theorem Comb.step {op : Int → Int → Int} {f1 f2 g1 g2 made : List Jp} (h : Comb op f1 f2 g1 g2 made) (hf : mayJ (f1 ++ f2) = true) (hg : mayJ (g1 ++ g2) = true) (h0 : ¬ (f2 = [] ∧ g2 = [])) (t : Int) (ht : t = min (nxt f2) (nxt g2)) :
    Comb op (f1 ++ pasL f2 t) (pasR f2 t) (g1 ++ pasL g2 t) (pasR g2 t)
      (if op (js (f1 ++ pasL f2 t)) (js (g1 ++ pasL g2 t)) = op (js f1) (js g1) then made else made ++ [(t, op (js (f1 ++ pasL f2 t)) (js (g1 ++ pasL g2 t)) - op (js f1) (js g1))]) := by
  have htF : t < 1125899906842624 := by
    have h1 := nxt_le hf
    have h2 := nxt_le hg
    by_cases e : f2 = []
    · have h3 := nxt_lt hg (fun e2 => h0 ⟨e, e2⟩); omega
    · have h3 := nxt_lt hf e; omega
  have n1 := pas_next (t := t) hf (by omega) htF
  have n2 := pas_next (t := t) hg (by omega) htF
  have hlt : ∀ j ∈ made, j.1 < t := fun j hj => by rw [ht]; exact h.lt j hj
  have hf1 : ∀ j ∈ f1 ++ pasL f2 t, j.1 ≤ t := fun j hj => by
    rcases List.mem_append.1 hj with hj | hj
    · have := h.l1 j hj; omega
    · have := pas_at f2 t j hj; omega
  have hg1 : ∀ j ∈ g1 ++ pasL g2 t, j.1 ≤ t := fun j hj => by
    rcases List.mem_append.1 hj with hj | hj
    · have := h.l2 j hj; omega
    · have := pas_at g2 t j hj; omega
  obtain ⟨x, hx⟩ : ∃ x, x = op (js (f1 ++ pasL f2 t)) (js (g1 ++ pasL g2 t)) := ⟨_, rfl⟩
  have hsum := h.sum
  rw [← hx, ← hsum]
  have hlen := h.len
  refine ⟨?_, ?_, fun j hj => by have := hf1 j hj; omega, fun j hj => by have := hg1 j hj; omega, ?_, fun u hu => ?_, ?_⟩
  · split
    · exact h.canon
    · exact h.canon.snoc (by simpa using hlt) (by simp only; omega)
  · intro j hj
    have : j.1 ≤ t := by
      split at hj
      · exact Int.le_of_lt (hlt j hj)
      · rcases List.mem_append.1 hj with hj | hj
        · exact Int.le_of_lt (hlt j hj)
        · simp only [List.mem_singleton] at hj; subst hj; exact Int.le_refl _
    omega
  · split
    · rename_i e; exact e.symm.trans hx
    · rw [js_snoc, ← hx]; simp only; omega
  · by_cases hut : u < t
    · have e : jv (if x = js made then made else made ++ [(t, x - js made)]) u = jv made u := by
        split
        · rfl
        · rw [jv_snoc, if_neg (by simp only; omega)]; omega
      rw [e, pas_jv hut, pas_jv hut]
      exact h.at' u (by omega)
    · have e1 := jv_high (f := f1 ++ pasL f2 t) (t := u) (fun j hj => by have := hf1 j hj; omega)
      have e2 := jv_high (f := g1 ++ pasL g2 t) (t := u) (fun j hj => by have := hg1 j hj; omega)
      have e3 := jv_high (f := made) (t := u) (fun j hj => by have := hlt j hj; omega)
      rw [e1, e2, ← hx]
      split
      · rename_i e; rw [e3, e]
      · rw [jv_snoc, if_pos (by simp only; omega), e3]; simp only; omega
  · rcases f2 with _ | ⟨j, r⟩
    · rcases g2 with _ | ⟨k, s⟩
      · exact absurd ⟨rfl, rfl⟩ h0
      · have e : k.1 = t := by have := nxt_le hg; simp only [nxt] at ht this; omega
        simp only [pasL, if_pos e, List.length_append, List.length_cons, List.length_nil]
        split
        · omega
        · simp; omega
    · by_cases e : j.1 = t
      · simp only [pasL, if_pos e, List.length_append, List.length_cons, List.length_nil]
        split
        · omega
        · simp; omega
      · rcases g2 with _ | ⟨k, s⟩
        · exfalso; have := nxt_le hf; simp only [nxt] at ht this; omega
        · have e' : k.1 = t := by simp only [nxt] at ht; omega
          simp only [pasL, if_neg e, if_pos e', List.length_append, List.length_cons, List.length_nil]
          split
          · omega
          · simp; omega
/-- At the end. -/
theorem Comb.done {op : Int → Int → Int} (h0 : op 0 0 = 0) {f g made : List Jp} (h : Comb op f [] g [] made) (hf : mayJ f = true) (hg : mayJ g = true) : made = opd op f g := by
  refine one_form h.canon (opd_canon op f g) (fun j hj => by have := h.lt j hj; simp only [nxt] at this; omega) (opd_lt hf hg) (fun t ht => ?_)
  rw [opd_val h0 hf hg t ht]
  exact h.at' t (by simp only [nxt]; omega)
/-! ### The other sign; parts -/
/-! ### Values -/
def atV (f : List Jp) (t : Int) : Int := if mayJ f then jv f t else 0
def leF (f : List Jp) (m : Int) (g : List Jp) : Int := g.foldl (fun m j => min m (jv f j.1)) m
def leV (f : List Jp) : Int := if mayJ f then leF f (jv f (-1)) f else 0
theorem leF_snoc (f : List Jp) (m : Int) (g : List Jp) (j : Jp) : leF f m (g ++ [j]) = min (leF f m g) (jv f j.1) := by simp [leF]
/-- The sum behind a jump is the value there. -/
theorem js_at {f1 f2 : List Jp} {j : Jp} (h : Asc (f1 ++ j :: f2)) : js (f1 ++ [j]) = jv (f1 ++ j :: f2) j.1 := by
  have h1 := (List.pairwise_append.1 h).2.2
  have h2 := (List.pairwise_cons.1 (List.pairwise_append.1 h).2.1).1
  rw [jv_append, jv, if_pos (Int.le_refl _), jv_low h2, jv_high (fun a ha => Int.le_of_lt (h1 a ha j (by simp))), js_snoc]; omega
end Go.Proofs.YtljkneajdndgjabGreat
set_option linter.unusedVariables false
set_option linter.unusedSimpArgs false
namespace Go.Proofs.YtljkneajdndgjabGreat
open Go.RowKit
theorem full_zero {f : List Jp} : full f = 0 ↔ mayJ f = true := by
  unfold full
  cases mayJ f
  · simp
  · simp
theorem twE_zero {op : Int → Int → Int} {f g : List Jp} : twE op f g = 0 ↔ mayJ f = true ∧ mayJ g = true ∧ mayJ (opd op f g) = true := by
  unfold twE
  cases mayJ f <;> cases mayJ g <;> simp [full_zero]
theorem twR_ok {op : Int → Int → Int} {f g : List Jp} (h : twE op f g = 0) : twR op f g = opd op f g := by unfold twR; rw [if_pos h]
end Go.Proofs.YtljkneajdndgjabGreat
set_option linter.unusedVariables false
set_option linter.unusedSimpArgs false
namespace Go.Proofs.YtljkneajdndgjabGreat
open Go.RowKit Go.Deep Go.ChangeShapes

section
variable {H : Type} {enc : TypeId × Value → H} {P : Program} {w : World} {base fuel : Nat} {held : Bool}
theorem addr_plain {a : Addr} {i : Nat} {v : Value} (h : w.cell? (a.add i) = some v) (h0 : i = 0) : ∃ b o, a = ⟨b, o, none⟩ := by
  subst h0
  have := World.cell?_spot h
  obtain ⟨b, o, s⟩ := a
  simp [Addr.add] at this
  subst this
  exact ⟨b, o, rfl⟩
theorem wf_i64 {z : Int} (h : (Lit.int .i64 z).wf = true) : -9223372036854775808 ≤ z ∧ z ≤ 9223372036854775807 := by simpa [Lit.wf, IntKind.min, IntKind.max, IntKind.bits, IntKind.signed] using h

/-- How many elements a reading of a slice has, and no spare beyond. -/
def sliceLen : DataW H → Nat
  | .slice elems spare => elems.length
  | _ => 0

/-- Pairs of numbers as cells. -/
def ps (l : List (Int × Int)) : List Value := l.flatMap fun p => [.int .i64 p.1, .int .i64 p.2]
theorem ps_length (l : List (Int × Int)) : (ps l).length = l.length * 2 := by
  induction l with
  | nil => rfl
  | cons p r ih => simp only [ps, List.flatMap_cons, List.length_append, List.length_cons, List.length_nil] at ih ⊢; omega
theorem ps_get : ∀ (l : List (Int × Int)) (i : Nat) (p : Int × Int), l[i]? = some p → (ps l)[i * 2]? = some (.int .i64 p.1) ∧ (ps l)[i * 2 + 1]? = some (.int .i64 p.2)
  | q :: r, 0, p, h => by simp at h; subst h; exact ⟨rfl, rfl⟩
  | q :: r, i + 1, p, h => by
    have := ps_get r i p (by simpa using h)
    rw [show (i + 1) * 2 = i * 2 + 1 + 1 by omega]
    simpa [ps] using this
end
end Go.Proofs.YtljkneajdndgjabGreat
set_option linter.unusedVariables false
set_option linter.unusedSimpArgs false
namespace Go.Proofs.YtljkneajdndgjabGreat
open Go.RowKit
attribute [local go_sem] GW.cell GW.frozen In.eq_true In.le_true In.ne In.ne' In.ne_add In.ne_add' In.lt_add Upto.le_true Upto.le_add Upto.lt_add
theorem ps_append (l m : List Jp) : ps (l ++ m) = ps l ++ ps m := by simp [ps]
theorem ps_one (l : List Jp) : ∀ u ∈ ps l, u.oneCell' = true := by
  intro u hu
  simp only [ps, List.mem_flatMap] at hu
  obtain ⟨a, _, hu⟩ := hu
  simp at hu
  rcases hu with rfl | rfl <;> rfl
/-- Jumps, where they lie. -/
abbrev Jw (w : World) (S : List Nat) (v : Value) (l : List Jp) : Prop := Sl w S 2 v l.length (ps l)
abbrev OwnJ (w : World) (base : Nat) (v : Value) (l : List Jp) : Prop := w.ownsRow base 80 2 v l.length (ps l)
theorem jw_form {w : World} {S : List Nat} {v : Value} {l : List Jp} (h : Jw w S v l) : ∃ A cap, v = .slice A l.length cap ∧ l.length ≤ cap ∧ cap ≤ maxLen ∧
    ∀ (i : Nat) (x : Jp), l[i]? = some x → ∃ b o, A = some ⟨b, o, none⟩ ∧ b ∉ S ∧ b < w.heap.size ∧ w.cell? ⟨b, o + i * 2, none⟩ = some (.int .i64 x.1) ∧ w.cell? ⟨b, o + i * 2 + 1, none⟩ = some (.int .i64 x.2) := by
  obtain ⟨A, cap, rfl, h1, h2, h3, h4⟩ := h
  refine ⟨A, cap, rfl, h1, h2, fun i x hx => ?_⟩
  obtain ⟨g0, g1⟩ := ps_get l i x hx
  rcases h4 with h4 | ⟨b, o, rfl, hb, hc⟩
  · rw [h4] at g0; cases g0
  · have c0 := hc _ _ g0
    have c1 := hc _ _ g1
    exact ⟨b, o, rfl, hb, block_lt_of_cell c0, c0, c1⟩
theorem jcell_later {w wr : World} (h : Ext w wr) {b o : Nat} {u : Value} (hc : w.cell? ⟨b, o, none⟩ = some u) : wr.cell? ⟨b, o, none⟩ = some u :=
  (World.cell?_of_block (a := ⟨b, o, none⟩) (h.block b (block_lt_of_cell hc))).trans hc
theorem jdrop_cons {α : Type} {l : List α} {k : Nat} {x : α} (h : l[k]? = some x) : l.drop k = x :: l.drop (k + 1) := by
  have hk := (List.getElem?_eq_some_iff.1 h).1
  rw [List.drop_eq_getElem_cons hk]
  rw [List.getElem?_eq_getElem hk] at h
  rw [Option.some.inj h]
theorem take_snoc {α : Type} {l : List α} {k : Nat} {x : α} (h : l[k]? = some x) : l.take (k + 1) = l.take k ++ [x] := by
  rw [List.take_add_one, h]; rfl
theorem tJmp : ElemT Tryz.prog 39 80 (.agg #[.int .i64 0, .int .i64 0]) 2 16 := ElemT.mk' Tryz.underlying39 (by kernel_rfl) rfl (by omega)
theorem own_appJ {w : World} {B : Nat} {v : Value} {l m : List Jp} (h : w.ownsRow B 80 2 v (l.length + m.length) (ps l ++ ps m)) : OwnJ w B v (l ++ m) := by
  unfold OwnJ; rw [List.length_append, ps_append]; exact h
theorem own_jw {w : World} {B : Nat} {S : List Nat} {v : Value} {l : List Jp} (h : OwnJ w B v l) (hs : ∀ b, b ∈ S → b < B) : Jw w S v l := Sl.own h hs
/-- A jump by value. -/
abbrev jm (x : Jp) : Value := .agg #[.int .i64 x.1, .int .i64 x.2]
theorem src_jmp {P : Program} {tx e' : TypeId} (hk : P.underlying tx = some (.slice e')) (w : World) (x : Jp) (E : TypeId) : Src P 2 tx (.slice (some ⟨w.heap.size, 0, none⟩) 1 1) 1 (ps [x]) (w.alloc (.cells #[.int .i64 x.1, .int .i64 x.2] E)) :=
  Src.ofSlice _ hk _ 1 1 (ps [x]) (by simp [ps]) (fun j u hj => by
    have hj' : j < 2 := by
      have := (List.getElem?_eq_some_iff.1 hj).1
      simpa [ps] using this
    have hh := (Ob.new w E [.int .i64 x.1, .int .i64 x.2]).cell j hj
    rw [show (⟨w.heap.size, 0, none⟩ : Addr).add j = ⟨w.heap.size, j, none⟩ by rw [add_plain]; simp]
    exact hh) (by
    intro u hu
    exact ps_one [x] u hu)
def instB (t : Int) : Bool := decide (-1 ≤ t ∧ t < 1125899906842624)
theorem inst_yes {t : Int} (h : instB t = true) : -1 ≤ t ∧ t < 1125899906842624 := by unfold instB at h; simpa using h
theorem inst_no {t : Int} (h : instB t = false) : t < -1 ∨ (-1 ≤ t ∧ 1125899906842624 ≤ t) := by unfold instB at h; rw [decide_eq_false_iff_not] at h; omega
set_option maxHeartbeats 1000000 in
theorem isInstant_c (t : Int) (w : World) : Calls Tryz.prog 98 #[.int .i64 t] w fun e w' => e = .returned (.bool (instB t)) ∧ Ext w w' := by
  cases h : instB t
  · rcases inst_no h with h1 | ⟨h1, h2⟩
    · clear h
      go_enter Tryz.func98, Tryz.ntmps98
      go_wp2_with fail
      go_returns
      exact ⟨rfl, Ext.refl w⟩
    · have h3 : decide (t < 1125899906842624) = false := by rw [decide_eq_false_iff_not]; omega
      clear h h2
      go_enter Tryz.func98, Tryz.ntmps98
      go_wp2_with fail
      go_returns
      exact ⟨rfl, Ext.refl w⟩
  · obtain ⟨h1, h2⟩ := inst_yes h
    clear h
    go_enter Tryz.func98, Tryz.ntmps98
    go_wp2_with fail
    go_returns
    exact ⟨rfl, Ext.refl w⟩
set_option maxHeartbeats 1000000 in
theorem isTooGreat_c (x : Jp) (w : World) : Calls Tryz.prog 99 #[jm x] w fun e w' => e = .returned (.bool (tooJ x)) ∧ Ext w w' := by
  obtain ⟨p, n⟩ := x
  obtain ⟨R, hR⟩ : ∃ R, R = tooJ (p, n) := ⟨_, rfl⟩
  rw [← hR]
  unfold tooJ at hR
  by_cases h1 : 1048576 < n
  · have e : R = true := by rw [hR, decide_eq_true_iff]; exact .inl h1
    subst e
    clear hR
    go_enter Tryz.func99, Tryz.ntmps99
    go_wp2_with fail
    go_returns
    exact ⟨rfl, (Ext.refl w).alloc _⟩
  · have h1' : n ≤ 1048576 := by omega
    by_cases h2 : n < -1048576
    · have e : R = true := by rw [hR, decide_eq_true_iff]; exact .inr h2
      subst e
      clear hR h1
      go_enter Tryz.func99, Tryz.ntmps99
      go_wp2_with fail
      go_returns
      exact ⟨rfl, (Ext.refl w).alloc _⟩
    · have e : R = false := by rw [hR, decide_eq_false_iff_not]; simp only; omega
      have h2' : decide (n < -1048576) = false := by rw [decide_eq_false_iff_not]; exact h2
      have h1'' : decide (1048576 < n) = false := by rw [decide_eq_false_iff_not]; exact h1
      subst e
      clear hR h1 h2
      go_enter Tryz.func99, Tryz.ntmps99
      go_wp2_with fail
      go_returns
      exact ⟨rfl, (Ext.refl w).alloc _⟩
end Go.Proofs.YtljkneajdndgjabGreat
