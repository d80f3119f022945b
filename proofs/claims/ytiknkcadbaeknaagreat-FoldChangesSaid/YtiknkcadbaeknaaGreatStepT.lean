/-
  A helper of ours: no claim of its own. Layer 9 (step): what each call makes of step functions, as lists: jumps put together, two functions at once, parts. No program in it.
-/
import Derived.Test.YtiknkcadbaeknaaGreatStepS
set_option linter.unusedVariables false
set_option linter.unusedSimpArgs false
namespace Go.Proofs.YtiknkcadbaeknaaGreat
open Go.RowKit
theorem tell_lt (v : Int → Int) (F : Int) (ps : List Int) (was : Int) (h : ∀ p ∈ ps, p < F) : ∀ j ∈ tell v ps was, j.1 < F := fun j hj => h _ (tell_mem v ps was j hj).1
theorem Asc.nil' : ([] : List Int).Pairwise (· < ·) := List.Pairwise.nil
/-! ### Norm -/
def tooJ (j : Jp) : Bool := decide (1048576 < j.2 ∨ j.2 < -1048576)
def nowJ (j : Jp) : Bool := decide (j.1 < -1 ∨ 1125899906842624 < j.1)
def inF (l : List Jp) : List Jp := l.filter fun j => decide (j.1 ≠ 1125899906842624)
def nmL (l : List Jp) : List Jp := tell (jv l) (plc [] (inF l)) 0
/-- What is wrong with jumps that are put together. -/
def nmE (l : List Jp) : Int := if l.any tooJ then 2 else if l.any nowJ then 13 else full (nmL l)
def nmR (l : List Jp) : List Jp := if nmE l = 0 then nmL l else []
theorem nmL_val (l : List Jp) (h : ∀ j ∈ l, nowJ j = false) (t : Int) (ht : t < 1125899906842624) : jv (nmL l) t = jv l t := by
  have hm : ∀ x, x ∈ plc [] (inF l) ↔ ∃ j ∈ inF l, j.1 = x := fun x => by rw [plc_mem]; simp
  have hmem : ∀ j ∈ l, j.1 ≠ 1125899906842624 → j.1 ∈ plc [] (inF l) := fun j hj h0 => (hm _).2 ⟨j, by simp [inF, hj, h0], rfl⟩
  have hle : ∀ j ∈ l, j.1 ≤ 1125899906842624 := fun j hj => by have := h j hj; unfold nowJ at this; rw [decide_eq_false_iff_not] at this; omega
  refine tell_all (jv l) 1125899906842624 _ (plc_asc _ _ Asc.nil') (fun p hp => ?_) (fun s u h1 h2 h3 => ?_) (fun u h1 h2 => ?_) t ht
  · obtain ⟨j, hj, rfl⟩ := (hm p).1 hp
    simp only [inF, List.mem_filter, decide_eq_true_eq] at hj
    have := hle j hj.1; omega
  · refine jv_between h1 fun j hj => ?_
    by_cases h0 : j.1 = 1125899906842624
    · right; omega
    · exact h3 _ (hmem j hj h0)
  · refine jv_low fun j hj => ?_
    by_cases h0 : j.1 = 1125899906842624
    · omega
    · exact h2 _ (hmem j hj h0)
theorem nmL_lt (l : List Jp) (h : ∀ j ∈ l, nowJ j = false) : ∀ j ∈ nmL l, j.1 < 1125899906842624 := by
  refine tell_lt _ _ _ _ fun p hp => ?_
  obtain ⟨j, hj, rfl⟩ := ((plc_mem _ _ _).1 hp).resolve_left (by simp)
  simp only [inF, List.mem_filter, decide_eq_true_eq] at hj
  have := h j hj.1; unfold nowJ at this; rw [decide_eq_false_iff_not] at this; omega
/-- One more, in order. -/
def addS (acc : List Jp) (j : Jp) : List Jp := match acc.getLast? with
  | none => [j]
  | some k => if k.1 = j.1 then acc.dropLast ++ [(k.1, k.2 + j.2)] else acc ++ [j]
def addup (s : List Jp) : List Jp := s.foldl addS []
theorem addup_snoc (s : List Jp) (j : Jp) : addup (s ++ [j]) = addS (addup s) j := by simp [addup]
theorem addS_nil (j : Jp) : addS [] j = [j] := rfl
theorem addS_same (acc : List Jp) (k j : Jp) (h : k.1 = j.1) : addS (acc ++ [k]) j = acc ++ [(k.1, k.2 + j.2)] := by
  unfold addS; simp [h]
theorem addS_other (acc : List Jp) (k j : Jp) (h : ¬ k.1 = j.1) : addS (acc ++ [k]) j = acc ++ [k] ++ [j] := by
  unfold addS; simp [h]
theorem snoc_cases {α : Type} (l : List α) : l = [] ∨ ∃ m a, l = m ++ [a] := by
  rcases List.eq_nil_or_concat l with h | ⟨m, a, h⟩
  · exact .inl h
  · exact .inr ⟨m, a, by rw [h, List.concat_eq_append]⟩
theorem addS_jv (acc : List Jp) (j : Jp) (t : Int) : jv (addS acc j) t = jv (acc ++ [j]) t := by
  rcases snoc_cases acc with rfl | ⟨m, k, rfl⟩
  · rfl
  · by_cases h : k.1 = j.1
    · rw [addS_same _ _ _ h, jv_snoc, jv_snoc, jv_snoc]
      simp only
      rw [h]
      split <;> omega
    · rw [addS_other _ _ _ h]
theorem addup_jv (s : List Jp) (t : Int) : jv (addup s) t = jv s t := by
  suffices H : ∀ n (s : List Jp), s.length = n → jv (addup s) t = jv s t from H _ s rfl
  intro n
  induction n with
  | zero => intro s h; obtain rfl := List.length_eq_zero_iff.1 h; rfl
  | succ n ih =>
    intro s h
    rcases snoc_cases s with rfl | ⟨m, k, rfl⟩
    · simp at h
    · rw [addup_snoc, addS_jv, jv_snoc, jv_snoc, ih m (by simpa using h)]
/-- What was added up is in order, and its last place is that of the last one; no more than there were; and no jump is greater than all together. -/
theorem addup_inv (K : Int) (hK : 0 ≤ K) : ∀ (n : Nat) (s : List Jp), s.length = n → s.Pairwise (fun a b => a.1 ≤ b.1) → (∀ j ∈ s, -K ≤ j.2 ∧ j.2 ≤ K) →
    Asc (addup s) ∧ (addup s).length ≤ n ∧ (∀ j ∈ addup s, ∃ k ∈ s, k.1 = j.1) ∧ (∀ j ∈ addup s, -(K * n) ≤ j.2 ∧ j.2 ≤ K * n)
  | 0, s, h, _, _ => by
    obtain rfl := List.length_eq_zero_iff.1 h
    exact ⟨List.Pairwise.nil, by simp [addup], by simp [addup], by simp [addup]⟩
  | n + 1, s, h, hs, hb => by
    rcases snoc_cases s with rfl | ⟨m, j, rfl⟩
    · simp at h
    have hm : m.length = n := by simpa using h
    obtain ⟨h1, h2, h3, h4⟩ := addup_inv K hK n m hm (List.pairwise_append.1 hs).1 (fun a ha => hb a (by simp [ha]))
    have hle : ∀ a ∈ m, a.1 ≤ j.1 := fun a ha => (List.pairwise_append.1 hs).2.2 a ha j (by simp)
    have hj := hb j (by simp)
    have hlt : ∀ a ∈ addup m, a.1 ≤ j.1 := fun a ha => by obtain ⟨k, hk, e⟩ := h3 a ha; have := hle k hk; omega
    have eK : K * ((n + 1 : Nat) : Int) = K * (n : Int) + K := by push_cast; rw [Int.mul_add, Int.mul_one]
    rw [eK]
    have hKn : 0 ≤ K * (n : Int) := Int.mul_nonneg hK (by omega)
    generalize K * (n : Int) = z at *
    rw [addup_snoc]
    rcases snoc_cases (addup m) with e | ⟨p, k, e⟩
    · rw [e, addS_nil]
      exact ⟨by simp, by simp, fun a ha => by simp only [List.mem_singleton] at ha; subst ha; exact ⟨a, by simp, rfl⟩, fun a ha => by simp only [List.mem_singleton] at ha; subst ha; omega⟩
    · rw [e] at h1 h2 h3 h4 hlt ⊢
      have hpk := (List.pairwise_append.1 h1).2.2
      by_cases hk : k.1 = j.1
      · rw [addS_same _ _ _ hk]
        refine ⟨List.pairwise_append.2 ⟨(List.pairwise_append.1 h1).1, by simp, fun a ha b hb => ?_⟩, by simpa using (by simp at h2; omega), fun a ha => ?_, fun a ha => ?_⟩
        · simp only [List.mem_singleton] at hb; subst hb; exact hpk a ha k (by simp)
        · rcases List.mem_append.1 ha with ha | ha
          · obtain ⟨q, hq, e2⟩ := h3 a (by simp [ha]); exact ⟨q, by simp [hq], e2⟩
          · simp only [List.mem_singleton] at ha; subst ha; exact ⟨j, by simp, hk.symm⟩
        · rcases List.mem_append.1 ha with ha | ha
          · have := h4 a (by simp [ha]); omega
          · simp only [List.mem_singleton] at ha; subst ha; have := h4 k (by simp); simp only; omega
      · rw [addS_other _ _ _ hk]
        have hkj : k.1 < j.1 := by have := hlt k (by simp); omega
        refine ⟨List.pairwise_append.2 ⟨h1, by simp, fun a ha b hb => ?_⟩, by simpa using (by simp at h2; omega), fun a ha => ?_, fun a ha => ?_⟩
        · simp only [List.mem_singleton] at hb; subst hb
          rcases List.mem_append.1 ha with ha | ha
          · have := hpk a ha k (by simp); omega
          · simp only [List.mem_singleton] at ha; subst ha; exact hkj
        · rcases List.mem_append.1 ha with ha | ha
          · obtain ⟨q, hq, e2⟩ := h3 a (by simpa using ha); exact ⟨q, by simp [hq], e2⟩
          · simp only [List.mem_singleton] at ha; subst ha; exact ⟨a, by simp, rfl⟩
        · rcases List.mem_append.1 ha with ha | ha
          · have := h4 a (by simpa using ha); omega
          · simp only [List.mem_singleton] at ha; subst ha; omega
/-- Has it no effect? -/
def dropJ (j : Jp) : Bool := decide (j.2 = 0 ∨ j.1 = 1125899906842624)
theorem jv_filter (f : List Jp) (t : Int) (ht : t < 1125899906842624) : jv (f.filter fun j => !dropJ j) t = jv f t := by
  induction f with
  | nil => rfl
  | cons a r ih =>
    rw [List.filter_cons]
    by_cases h : dropJ a = true
    · rw [if_neg (by simp [h]), ih, jv]
      unfold dropJ at h
      rw [decide_eq_true_iff] at h
      split <;> omega
    · rw [if_pos (by simpa using h), jv, jv, ih]
/-- Jumps added up in whatever order of those at one place, without those of no effect, are what is told by their values. -/
theorem norm_code {l s : List Jp} (hp : s.Perm l) (hs : s.Pairwise fun a b => a.1 ≤ b.1) (hn : ∀ j ∈ l, nowJ j = false) : (addup s).filter (fun j => !dropJ j) = nmL l := by
  obtain ⟨K, hK, hb⟩ : ∃ K : Int, 0 ≤ K ∧ ∀ j ∈ s, -K ≤ j.2 ∧ j.2 ≤ K := by
    clear hp hs
    induction s with
    | nil => exact ⟨0, by omega, by simp⟩
    | cons a r ih =>
      obtain ⟨K, hK, h⟩ := ih
      refine ⟨max K (max a.2 (-a.2)), by omega, fun j hj => ?_⟩
      rcases List.mem_cons.1 hj with rfl | hj
      · omega
      · have := h j hj; omega
  obtain ⟨h1, _, h3, _⟩ := addup_inv K hK s.length s rfl hs hb
  refine one_form ⟨h1.sublist List.filter_sublist, fun j hj => ?_⟩ (tell_canon _ _ _ (plc_asc _ _ Asc.nil')) (fun j hj => ?_) (nmL_lt l hn) (fun t ht => ?_)
  · simp only [List.mem_filter, dropJ, Bool.not_eq_true', decide_eq_false_iff_not] at hj; omega
  · simp only [List.mem_filter, dropJ, Bool.not_eq_true', decide_eq_false_iff_not] at hj
    obtain ⟨k, hk, e⟩ := h3 j hj.1
    have := hn k (hp.mem_iff.1 hk)
    unfold nowJ at this
    rw [decide_eq_false_iff_not] at this
    omega
  · rw [jv_filter _ _ ht, addup_jv, jv_perm hp, nmL_val l hn t ht]
/-! ### Two at once -/
def nxt : List Jp → Int
  | [] => 1125899906842624
  | j :: _ => j.1
def opv (op : Int → Int → Int) (f g : List Jp) (t : Int) : Int := op (jv f t) (jv g t)
def opd (op : Int → Int → Int) (f g : List Jp) : List Jp := tell (opv op f g) (plc (plc [] f) g) 0
def twE (op : Int → Int → Int) (f g : List Jp) : Int := if mayJ f && mayJ g then full (opd op f g) else 2
def twR (op : Int → Int → Int) (f g : List Jp) : List Jp := if twE op f g = 0 then opd op f g else []
/-- Two functions, gone through up to a place. -/
structure Comb (op : Int → Int → Int) (f1 f2 g1 g2 made : List Jp) : Prop where
  canon : Canon made
  lt : ∀ j ∈ made, j.1 < min (nxt f2) (nxt g2)
  l1 : ∀ j ∈ f1, j.1 < min (nxt f2) (nxt g2)
  l2 : ∀ j ∈ g1, j.1 < min (nxt f2) (nxt g2)
  sum : js made = op (js f1) (js g1)
  at' : ∀ t, t < min (nxt f2) (nxt g2) → jv made t = op (jv f1 t) (jv g1 t)
  len : made.length ≤ f1.length + g1.length
/-- What is passed at a place. -/
def pasL (f2 : List Jp) (t : Int) : List Jp := match f2 with
  | [] => []
  | j :: r => if j.1 = t then [j] else []
def pasR (f2 : List Jp) (t : Int) : List Jp := match f2 with
  | [] => []
  | j :: r => if j.1 = t then r else j :: r
/-! ### The other sign; parts -/
def ngL (f : List Jp) : List Jp := f.map fun j => (j.1, -j.2)
def ngE (f : List Jp) : Int := if mayJ f then 0 else 2
def ngR (f : List Jp) : List Jp := if mayJ f then ngL f else []
/-- The jumps ahead of a place, those from it on. -/
def cutL (f : List Jp) (t : Int) : List Jp := f.takeWhile fun j => decide (j.1 < t)
def cutR (f : List Jp) (t : Int) : List Jp := f.dropWhile fun j => decide (j.1 < t)
def ahV (f : List Jp) (t p : Int) : Int := if p < t then jv f p else 0
def ahP (f : List Jp) (t : Int) : List Int := if -1 ≤ t ∧ t < 1125899906842624 then ins (plc [] f) t else plc [] f
def ahL (f : List Jp) (t : Int) : List Jp := tell (ahV f t) (ahP f t) 0
def ahE (f : List Jp) (t : Int) : Int := if mayJ f then full (ahL f t) else 2
def ahR (f : List Jp) (t : Int) : List Jp := if ahE f t = 0 then ahL f t else []
theorem plc0_mem (f : List Jp) (x : Int) : x ∈ plc [] f ↔ ∃ j ∈ f, j.1 = x := by rw [plc_mem]; simp
def ahC (f : List Jp) (t : Int) : List Jp := if js (cutL f t) ≠ 0 ∧ t < 1125899906842624 then cutL f t ++ [(t, -js (cutL f t))] else cutL f t
def reV (f : List Jp) (t p : Int) : Int := jv f (if -1 < t ∧ p < t then t - 1 else p)
def reP (f : List Jp) : List Int := ins (plc [] f) (-1)
def reL (f : List Jp) (t : Int) : List Jp := if 1125899906842624 ≤ t then [] else tell (reV f t) (reP f) 0
def reE (f : List Jp) (t : Int) : Int := if mayJ f then full (reL f t) else 2
def reR (f : List Jp) (t : Int) : List Jp := if reE f t = 0 then reL f t else []
def reC (f : List Jp) (t : Int) : List Jp := if js (cutL f t) ≠ 0 then (-1, js (cutL f t)) :: cutR f t else cutR f t
/-! ### Values -/
def atV (f : List Jp) (t : Int) : Int := if mayJ f then jv f t else 0
def leF (f : List Jp) (m : Int) (g : List Jp) : Int := g.foldl (fun m j => min m (jv f j.1)) m
def leV (f : List Jp) : Int := if mayJ f then leF f (jv f (-1)) f else 0
theorem leF_snoc (f : List Jp) (m : Int) (g : List Jp) (j : Jp) : leF f m (g ++ [j]) = min (leF f m g) (jv f j.1) := by simp [leF]
/-- The sum behind a jump is the value there. -/
theorem js_at {f1 f2 : List Jp} {j : Jp} (h : Asc (f1 ++ j :: f2)) : js (f1 ++ [j]) = jv (f1 ++ j :: f2) j.1 := by
  have h1 := (List.pairwise_append.1 h).2.2
  have h2 := (List.pairwise_cons.1 (List.pairwise_append.1 h).2.1).1
  rw [jv_append, jv, if_pos (Int.le_refl _), jv_low h2, jv_high (fun a ha => Int.le_of_lt (h1 a ha j (by simp))), js_snoc]; omega
end Go.Proofs.YtiknkcadbaeknaaGreat
