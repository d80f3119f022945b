/-
  A helper of ours: no claim of its own. Layer 11 (pack), lists only: lifetimes and functions: the jumps of both ends of a function's lifetimes are the function; lifetimes in form are those of their jumps.
-/
import Derived.Test.YtobmjcehgpmfgaaGreatPakD
import Derived.Test.YtobmjcehgpmfgaaGreatStepU
set_option linter.unusedVariables false
set_option linter.unusedSimpArgs false
namespace Go.Proofs.YtobmjcehgpmfgaaGreat
open Go.RowKit
/-- The jumps of both ends of lifetimes. -/
def spj (S : List Sp) : List Jp := S.flatMap fun s => [(s.1, 1), (s.2, -1)]
theorem spj_cons (s : Sp) (S : List Sp) : spj (s :: S) = (s.1, 1) :: (s.2, -1) :: spj S := rfl
theorem spj_append (S T : List Sp) : spj (S ++ T) = spj S ++ spj T := by simp [spj]
theorem spj_len (S : List Sp) : (spj S).length = 2 * S.length := by
  induction S with
  | nil => rfl
  | cons s S ih => rw [spj_cons, List.length_cons, List.length_cons, List.length_cons, ih]; omega
theorem spj_mem {S : List Sp} {j : Jp} (h : j ∈ spj S) : (∃ s ∈ S, j = (s.1, 1)) ∨ (∃ s ∈ S, j = (s.2, -1)) := by
  obtain ⟨s, hs, h⟩ := List.mem_flatMap.1 h
  simp only [List.mem_cons, List.not_mem_nil, or_false] at h
  rcases h with h | h
  · exact .inl ⟨s, hs, h⟩
  · exact .inr ⟨s, hs, h⟩
/-- The sum of the jumps at a place. -/
def nt : List Jp → Int → Int
  | [], _ => 0
  | j :: r, p => (if j.1 = p then j.2 else 0) + nt r p
theorem jv_nt (f : List Jp) (p : Int) : jv f p - jv f (p - 1) = nt f p := by
  induction f with
  | nil => rfl
  | cons a r ih =>
    rw [jv, jv, nt, ← ih]
    by_cases h1 : a.1 = p
    · rw [if_pos (by omega), if_neg (by omega), if_pos h1]; omega
    · by_cases h2 : a.1 ≤ p - 1
      · rw [if_pos (by omega), if_pos h2, if_neg h1]; omega
      · rw [if_neg (by omega), if_neg h2, if_neg h1]; omega
theorem nt_zero {f : List Jp} {p : Int} (h : ∀ j ∈ f, j.1 ≠ p) : nt f p = 0 := by
  induction f with
  | nil => rfl
  | cons a r ih => rw [nt, if_neg (h a (by simp)), ih fun j hj => h j (by simp [hj])]; rfl
theorem nt_mem {f : List Jp} (h : Asc f) {j : Jp} (hj : j ∈ f) : nt f j.1 = j.2 := by
  induction f with
  | nil => cases hj
  | cons a r ih =>
    obtain ⟨h1, h2⟩ := List.pairwise_cons.1 h
    rcases List.mem_cons.1 hj with rfl | hj
    · rw [nt, if_pos rfl, nt_zero fun k hk => by have := h1 k hk; omega]; omega
    · rw [nt, if_neg (by have := h1 j hj; omega), ih h2 hj]; omega
theorem spj_nt (S : List Sp) (p : Int) : nt (spj S) p = ((S.map Prod.fst).count p : Int) - ((S.map Prod.snd).count p : Int) := by
  induction S with
  | nil => rfl
  | cons s S ih =>
    rw [spj_cons, nt, nt, ih, List.map_cons, List.map_cons, List.count_cons, List.count_cons]
    by_cases h1 : s.1 = p <;> by_cases h2 : s.2 = p <;> simp [h1, h2] <;> omega
theorem count_rep (n : Nat) (x p : Int) : (List.replicate n x).count p = if x = p then n else 0 := by
  rw [List.count_replicate]
  by_cases h : x = p <;> simp [h]
theorem begL_cons (j : Jp) (f : List Jp) : begL (j :: f) = List.replicate j.2.toNat j.1 ++ begL f := by simp [begL]
theorem endL_cons (j : Jp) (f : List Jp) : endL (j :: f) = List.replicate (-j.2).toNat j.1 ++ endL f := by simp [endL]
theorem fun_nt (f : List Jp) (p : Int) : nt f p = ((begL f).count p : Int) - ((endL f).count p : Int) := by
  induction f with
  | nil => rfl
  | cons j f ih =>
    rw [nt, ih, begL_cons, endL_cons, List.count_append, List.count_append, count_rep, count_rep]
    by_cases h : j.1 = p
    · simp only [if_pos h]; omega
    · simp only [if_neg h]; omega
theorem begL_mem {f : List Jp} {x : Int} (h : x ∈ begL f) : ∃ j ∈ f, j.1 = x ∧ 0 < j.2 := by
  obtain ⟨j, hj, h⟩ := List.mem_flatMap.1 h
  obtain ⟨h1, h2⟩ := List.mem_replicate.1 h
  exact ⟨j, hj, h2.symm, by omega⟩
theorem endL_mem {f : List Jp} {x : Int} (h : x ∈ endL f) : ∃ j ∈ f, j.1 = x ∧ j.2 < 0 := by
  obtain ⟨j, hj, h⟩ := List.mem_flatMap.1 h
  obtain ⟨h1, h2⟩ := List.mem_replicate.1 h
  exact ⟨j, hj, h2.symm, by omega⟩
theorem rep_le (n : Nat) (x : Int) : (List.replicate n x).Pairwise (· ≤ ·) := by
  induction n with
  | zero => exact List.Pairwise.nil
  | succ n ih =>
    rw [List.replicate_succ, List.pairwise_cons]
    exact ⟨fun y hy => by rw [(List.mem_replicate.1 hy).2]; exact Int.le_refl _, ih⟩
theorem begL_sorted : ∀ {f : List Jp}, Asc f → (begL f).Pairwise (· ≤ ·)
  | [], _ => List.Pairwise.nil
  | j :: f, h => by
    obtain ⟨h1, h2⟩ := List.pairwise_cons.1 h
    rw [begL_cons, List.pairwise_append]
    refine ⟨rep_le _ _, begL_sorted h2, fun x hx y hy => ?_⟩
    obtain ⟨k, hk, rfl, -⟩ := begL_mem hy
    have := h1 k hk
    rw [(List.mem_replicate.1 hx).2]
    omega
theorem endL_sorted : ∀ {f : List Jp}, Asc f → (endL f).Pairwise (· ≤ ·)
  | [], _ => List.Pairwise.nil
  | j :: f, h => by
    obtain ⟨h1, h2⟩ := List.pairwise_cons.1 h
    rw [endL_cons, List.pairwise_append]
    refine ⟨rep_le _ _, endL_sorted h2, fun x hx y hy => ?_⟩
    obtain ⟨k, hk, rfl, -⟩ := endL_mem hy
    have := h1 k hk
    rw [(List.mem_replicate.1 hx).2]
    omega
theorem asc_inj {f : List Jp} (h : Asc f) {j k : Jp} (hj : j ∈ f) (hk : k ∈ f) (e : j.1 = k.1) : j = k := by
  have h1 := nt_mem h hj
  have h2 := nt_mem h hk
  rw [e] at h1
  exact Prod.ext e (h1.symm.trans h2)
/-- Nothing begins where something ends. -/
theorem beg_end {f : List Jp} (h : Asc f) {x y : Int} (hx : x ∈ begL f) (hy : y ∈ endL f) : x ≠ y := by
  rintro rfl
  obtain ⟨j, hj, e1, p1⟩ := begL_mem hx
  obtain ⟨k, hk, e2, p2⟩ := endL_mem hy
  have := asc_inj h hj hk (e1.trans e2.symm)
  subst this
  omega
/-- Lists that do not fall and have each thing equally often are one. -/
theorem sort_unique : ∀ l m : List Int, l.Pairwise (· ≤ ·) → m.Pairwise (· ≤ ·) → (∀ p, l.count p = m.count p) → l = m
  | [], [], _, _, _ => rfl
  | [], y :: m, _, _, h => by have := h y; simp at this
  | x :: l, [], _, _, h => by have := h x; simp at this
  | x :: l, y :: m, hl, hm, h => by
    have hl' := List.pairwise_cons.1 hl
    have hm' := List.pairwise_cons.1 hm
    have h1 : x ∈ y :: m := List.count_pos_iff.1 (by rw [← h x]; simp)
    have h2 : y ∈ x :: l := List.count_pos_iff.1 (by rw [h y]; simp)
    have e : x = y := by
      rcases List.mem_cons.1 h1 with e | h1
      · exact e
      · rcases List.mem_cons.1 h2 with e | h2
        · exact e.symm
        · have := hm'.1 x h1; have := hl'.1 y h2; omega
    subst e
    congr 1
    refine sort_unique l m hl'.2 hm'.2 fun p => ?_
    have := h p
    rw [List.count_cons, List.count_cons] at this
    omega
/-- A list that has nothing more often is not longer. -/
theorem count_len : ∀ l m : List Int, (∀ p, l.count p ≤ m.count p) → l.length ≤ m.length
  | [], m, _ => by simp
  | x :: l, m, h => by
    have hx : x ∈ m := List.count_pos_iff.1 (by have := h x; simp at this; omega)
    have hl := List.length_erase_of_mem hx
    have hp : 0 < m.length := List.length_pos_of_mem hx
    have ih := count_len l (m.erase x) fun p => by
      have := h p
      rw [List.count_cons] at this
      rw [List.count_erase]
      omega
    rw [List.length_cons]
    omega
/-- Beginnings, ends of lifetimes. -/
theorem spL_fst : ∀ b e : List Int, (spL b e).map Prod.fst = b
  | [], _ => rfl
  | x :: b, [] => by rw [spL, List.map_cons, spL_fst b []]
  | x :: b, y :: e => by rw [spL, List.map_cons, spL_fst b e]
theorem spL_snd : ∀ b e : List Int, e.length ≤ b.length → (spL b e).map Prod.snd = e ++ List.replicate (b.length - e.length) 1125899906842624
  | [], [], _ => rfl
  | [], y :: e, h => by simp at h
  | x :: b, [], _ => by
    have := spL_snd b [] (by simp)
    rw [spL, List.map_cons, this]
    simp [List.replicate_succ]
  | x :: b, y :: e, h => by
    have := spL_snd b e (by simpa using h)
    rw [spL, List.map_cons, this]
    simp
/-- Lifetimes in form: in their order, no end ahead of its beginning, none where another one begins. -/
structure OkS (S : List Sp) : Prop where
  fst : (S.map Prod.fst).Pairwise (· ≤ ·)
  snd : (S.map Prod.snd).Pairwise (· ≤ ·)
  rng : ∀ s ∈ S, -1 ≤ s.1 ∧ s.1 < s.2 ∧ s.2 ≤ 1125899906842624
  off : ∀ s ∈ S, ∀ u ∈ S, s.1 ≠ u.2
/-- How many are not above a place. -/
def cle : List Int → Int → Int
  | [], _ => 0
  | x :: l, t => (if x ≤ t then 1 else 0) + cle l t
theorem cle_append (l m : List Int) (t : Int) : cle (l ++ m) t = cle l t + cle m t := by
  induction l with
  | nil => simp [cle]
  | cons a r ih => simp only [List.cons_append, cle, ih]; omega
theorem cle_rep (n : Nat) (x t : Int) : cle (List.replicate n x) t = if x ≤ t then (n : Int) else 0 := by
  induction n with
  | zero => simp [cle]
  | succ n ih =>
    rw [List.replicate_succ, cle, ih]
    split <;> omega
theorem cle_range (l : List Int) (t : Int) : 0 ≤ cle l t ∧ cle l t ≤ l.length := by
  induction l with
  | nil => simp [cle]
  | cons a r ih => rw [cle, List.length_cons]; split <;> omega
theorem cle_all {l : List Int} {t : Int} (h : ∀ x ∈ l, x ≤ t) : cle l t = l.length := by
  induction l with
  | nil => rfl
  | cons a r ih => rw [cle, List.length_cons, if_pos (h a (by simp)), ih fun x hx => h x (by simp [hx])]; omega
theorem cle_none {l : List Int} {t : Int} (h : ∀ x ∈ l, t < x) : cle l t = 0 := by
  induction l with
  | nil => rfl
  | cons a r ih => rw [cle, if_neg (by have := h a (by simp); omega), ih fun x hx => h x (by simp [hx])]; rfl
theorem fun_cle (f : List Jp) (t : Int) : jv f t = cle (begL f) t - cle (endL f) t := by
  induction f with
  | nil => rfl
  | cons j f ih =>
    rw [jv, ih, begL_cons, endL_cons, cle_append, cle_append, cle_rep, cle_rep]
    split <;> omega
theorem spj_cle (S : List Sp) (t : Int) : jv (spj S) t = cle (S.map Prod.fst) t - cle (S.map Prod.snd) t := by
  induction S with
  | nil => rfl
  | cons s S ih =>
    rw [spj_cons, jv, jv, ih, List.map_cons, List.map_cons, cle, cle]
    simp only
    split <;> split <;> omega
theorem cle_at {l : List Int} (h : l.Pairwise (· ≤ ·)) {k : Nat} {y : Int} (hk : l[k]? = some y) : (k : Int) + 1 ≤ cle l y := by
  have hlt : k < l.length := (List.getElem?_eq_some_iff.1 hk).1
  have e := cle_append (l.take (k + 1)) (l.drop (k + 1)) y
  rw [List.take_append_drop] at e
  have h1 : cle (l.take (k + 1)) y = ((l.take (k + 1)).length : Int) := cle_all fun x hx => by
    rw [List.take_add_one, hk] at hx
    rcases List.mem_append.1 hx with hx | hx
    · have hp := h
      rw [← List.take_append_drop k l] at hp
      refine (List.pairwise_append.1 hp).2.2 x hx y ?_
      exact List.mem_of_getElem? (i := 0) (by rw [List.getElem?_drop, Nat.add_zero]; exact hk)
    · simp at hx; subst hx; exact Int.le_refl _
  have h2 := (cle_range (l.drop (k + 1)) y).1
  rw [List.length_take] at h1
  omega
theorem cle_before {l : List Int} (h : l.Pairwise (· ≤ ·)) {k : Nat} {x y : Int} (hk : l[k]? = some x) (hy : y < x) : cle l y ≤ k := by
  have hlt : k < l.length := (List.getElem?_eq_some_iff.1 hk).1
  have e := cle_append (l.take k) (l.drop k) y
  rw [List.take_append_drop] at e
  have h1 := (cle_range (l.take k) y).2
  have h2 : cle (l.drop k) y = 0 := cle_none fun z hz => by
    rw [List.drop_eq_getElem_cons hlt] at hz
    have hx : l[k] = x := (List.getElem?_eq_some_iff.1 hk).2
    rcases List.mem_cons.1 hz with rfl | hz
    · omega
    · have hp := h
      rw [← List.take_append_drop k l, List.drop_eq_getElem_cons hlt] at hp
      have := (List.pairwise_cons.1 (List.pairwise_append.1 hp).2.1).1 z hz
      omega
  rw [List.length_take] at h1
  omega
theorem end_le {f : List Jp} (hm : mayJ f = true) (h0 : 0 ≤ leV f) : (endL f).length ≤ (begL f).length := by
  have := pre_ends hm h0 f.length
  rwa [List.take_length] at this
/-- A function's lifetimes are in form. -/
theorem life_ok {f : List Jp} (hm : mayJ f = true) (h0 : 0 ≤ leV f) : OkS (lifeL f) := by
  have hasc := (mayJ_iff.1 hm).2.2
  have hat := mayJ_at hm
  have hle := end_le hm h0
  have hbs := begL_sorted hasc
  have hes := endL_sorted hasc
  have hb : ∀ x ∈ begL f, -1 ≤ x ∧ x < 1125899906842624 := fun x hx => by obtain ⟨j, hj, rfl, -⟩ := begL_mem hx; exact hat j hj
  have he : ∀ x ∈ endL f, -1 ≤ x ∧ x < 1125899906842624 := fun x hx => by obtain ⟨j, hj, rfl, -⟩ := endL_mem hx; exact hat j hj
  have hfs : (lifeL f).map Prod.fst = begL f := spL_fst _ _
  have hsn := spL_snd _ _ hle
  have hsn' : (lifeL f).map Prod.snd = endL f ++ List.replicate ((begL f).length - (endL f).length) 1125899906842624 := hsn
  have hsm : ∀ s ∈ lifeL f, s.2 ∈ endL f ∨ s.2 = 1125899906842624 := fun s hs => by
    have : s.2 ∈ (lifeL f).map Prod.snd := List.mem_map_of_mem hs
    rw [hsn'] at this
    rcases List.mem_append.1 this with h | h
    · exact .inl h
    · exact .inr (List.mem_replicate.1 h).2
  have hfm : ∀ s ∈ lifeL f, s.1 ∈ begL f := fun s hs => by
    have : s.1 ∈ (lifeL f).map Prod.fst := List.mem_map_of_mem hs
    rwa [hfs] at this
  have hoff : ∀ s ∈ lifeL f, ∀ u ∈ lifeL f, s.1 ≠ u.2 := fun s hs u hu => by
    rcases hsm u hu with h | h
    · exact beg_end hasc (hfm s hs) h
    · have := (hb s.1 (hfm s hs)).2; omega
  refine ⟨by rw [hfs]; exact hbs, ?_, fun s hs => ?_, hoff⟩
  · rw [hsn', List.pairwise_append]
    refine ⟨hes, rep_le _ _, fun x hx y hy => ?_⟩
    rw [(List.mem_replicate.1 hy).2]
    exact Int.le_of_lt (he x hx).2
  · obtain ⟨b1, b2⟩ := hb s.1 (hfm s hs)
    rcases hsm s hs with h | h
    · refine ⟨b1, ?_, Int.le_of_lt (he s.2 h).2⟩
      obtain ⟨i, hi⟩ := List.getElem?_of_mem hs
      have hbi : (begL f)[i]? = some s.1 := by rw [← hfs, List.getElem?_map, hi]; rfl
      have hei : (endL f)[i]? = some s.2 := by
        have h1 := spL_get (begL f) (endL f) i s.1 hbi
        have h2 : (spL (begL f) (endL f))[i]? = some s := hi
        rw [h2] at h1
        have h3 : s.2 = ((endL f)[i]?).getD 1125899906842624 := by have := Option.some.inj h1; rw [this]
        rcases hq : (endL f)[i]? with _ | y
        · rw [hq] at h3; have := (he s.2 h).2; simp at h3; omega
        · rw [hq] at h3; simp at h3; rw [h3]
      have h3 := cle_at hes hei
      obtain ⟨k, hk, e, -⟩ := endL_mem h
      have h4 := (leF_le f f (jv f (-1))).2 k hk
      have h5 : 0 ≤ jv f s.2 := by
        rw [← e]
        unfold leV at h0
        rw [if_pos hm] at h0
        omega
      rw [fun_cle] at h5
      have hne := hoff s hs s hs
      rcases Int.lt_trichotomy s.1 s.2 with h6 | h6 | h6
      · exact h6
      · exact absurd h6 hne
      · have := cle_before hbs hbi h6; omega
    · exact ⟨b1, by omega, by omega⟩
theorem okS_fine {S : List Sp} (h : ∀ s ∈ S, -1 ≤ s.1 ∧ s.1 < s.2 ∧ s.2 ≤ 1125899906842624) : ∀ j ∈ spj S, tooJ j = false ∧ nowJ j = false := fun j hj => by
  unfold tooJ nowJ
  rw [decide_eq_false_iff_not, decide_eq_false_iff_not]
  rcases spj_mem hj with ⟨s, hs, rfl⟩ | ⟨s, hs, rfl⟩ <;> (have := h s hs; simp only; omega)
theorem nm_fine {g f : List Jp} (h : ∀ j ∈ g, tooJ j = false ∧ nowJ j = false) (e : nmL g = f) (hf : mayJ f = true) : nmOp g = (0, f) := by
  have e1 : nmE g = 0 := by
    unfold nmE
    have a1 : g.any tooJ = false := List.any_eq_false.2 fun j hj => by rw [(h j hj).1]; decide
    have a2 : g.any nowJ = false := List.any_eq_false.2 fun j hj => by rw [(h j hj).2]; decide
    rw [a1, a2, if_neg (by decide), if_neg (by decide), e]
    exact full_zero.2 hf
  unfold nmOp nmR
  rw [e1, if_pos rfl, e]
theorem life_jv {f : List Jp} (hle : (endL f).length ≤ (begL f).length) {t : Int} (ht : t < 1125899906842624) : jv (spj (lifeL f)) t = jv f t := by
  have h1 : (lifeL f).map Prod.fst = begL f := spL_fst _ _
  have h2 : (lifeL f).map Prod.snd = endL f ++ List.replicate ((begL f).length - (endL f).length) 1125899906842624 := spL_snd _ _ hle
  rw [spj_cle, fun_cle, h1, h2, cle_append, cle_rep, if_neg (by omega)]; omega
/-- Both ends of a function's lifetimes, put together, are the function. -/
theorem life_nm {f : List Jp} (hm : mayJ f = true) (h0 : 0 ≤ leV f) : nmOp (spj (lifeL f)) = (0, f) := by
  have hfine := okS_fine (life_ok hm h0).rng
  refine nm_fine hfine ?_ hm
  refine one_form (tell_canon _ _ _ (plc_asc _ _ Asc.nil')) (mayJ_canon hm) (nmL_lt _ fun j hj => (hfine j hj).2) (fun j hj => (mayJ_at hm j hj).2) fun t ht => ?_
  rw [nmL_val _ (fun j hj => (hfine j hj).2) t ht, life_jv (end_le hm h0) ht]
theorem count_above {l : List Int} {p : Int} (h : ∀ x ∈ l, x < 1125899906842624) (hp : 1125899906842624 ≤ p) : l.count p = 0 := by
  rw [List.count_eq_zero]
  intro hm
  have := h p hm; omega
/-- What is put together of both ends of lifetimes has, at each place, as many beginnings less as many ends as these. -/
theorem nm_nt {S : List Sp} (hr : ∀ s ∈ S, -1 ≤ s.1 ∧ s.1 < s.2 ∧ s.2 ≤ 1125899906842624) {p : Int} (hp : p < 1125899906842624) : ((begL (nmL (spj S))).count p : Int) - ((endL (nmL (spj S))).count p : Int) = ((S.map Prod.fst).count p : Int) - ((S.map Prod.snd).count p : Int) := by
  have hfine := okS_fine hr
  rw [← fun_nt, ← spj_nt, ← jv_nt, ← jv_nt, nmL_val _ (fun j hj => (hfine j hj).2) p hp, nmL_val _ (fun j hj => (hfine j hj).2) (p - 1) (by omega)]
theorem nm_lt {S : List Sp} (hr : ∀ s ∈ S, -1 ≤ s.1 ∧ s.1 < s.2 ∧ s.2 ≤ 1125899906842624) : ∀ j ∈ nmL (spj S), j.1 < 1125899906842624 := nmL_lt _ fun j hj => (okS_fine hr j hj).2
theorem nm_asc (g : List Jp) : Asc (nmL g) := (tell_canon _ _ _ (plc_asc _ _ Asc.nil')).1
theorem nm_off {g : List Jp} (p : Int) : (begL (nmL g)).count p = 0 ∨ (endL (nmL g)).count p = 0 := by
  by_cases h1 : (begL (nmL g)).count p = 0
  · exact .inl h1
  · right
    rw [List.count_eq_zero]
    intro h2
    have h3 : p ∈ begL (nmL g) := List.count_pos_iff.1 (by omega)
    exact beg_end (nm_asc g) h3 h2 rfl
/-- What is put together has no more lifetimes. -/
theorem nm_cnt {S : List Sp} (hr : ∀ s ∈ S, -1 ≤ s.1 ∧ s.1 < s.2 ∧ s.2 ≤ 1125899906842624) : (lifeL (nmL (spj S))).length ≤ S.length := by
  have e : (lifeL (nmL (spj S))).length = (begL (nmL (spj S))).length := spL_length _ _
  rw [e, show S.length = (S.map Prod.fst).length by simp]
  refine count_len _ _ fun p => ?_
  by_cases hp : p < 1125899906842624
  · have h1 := nm_nt hr hp
    have h2 := nm_off (g := spj S) p
    omega
  · rw [count_above (fun x hx => by obtain ⟨j, hj, rfl, -⟩ := begL_mem hx; exact nm_lt hr j hj) (by omega)]
    omega
theorem spL_filter : ∀ {S : List Sp}, (S.map Prod.snd).Pairwise (· ≤ ·) → (∀ s ∈ S, s.2 ≤ 1125899906842624) → spL (S.map Prod.fst) ((S.map Prod.snd).filter fun x => decide (x < 1125899906842624)) = S
  | [], _, _ => rfl
  | s :: S, h, hl => by
    obtain ⟨h1, h2⟩ := List.pairwise_cons.1 h
    have ih := spL_filter h2 fun u hu => hl u (by simp [hu])
    have hs := hl s (by simp)
    rw [List.map_cons, List.map_cons, List.filter_cons]
    by_cases hlt : s.2 < 1125899906842624
    · rw [if_pos (by simpa using hlt), spL, ih]
    · have e : (S.map Prod.snd).filter (fun x => decide (x < 1125899906842624)) = [] := by
        rw [List.filter_eq_nil_iff]
        intro x hx
        have := h1 x hx
        rw [decide_eq_true_iff]
        omega
      rw [if_neg (by simpa using hlt), e, spL]
      rw [e] at ih
      rw [ih]
      congr 1
      exact Prod.ext rfl (by simp only; omega)
/-- Lifetimes in form are those of their jumps put together. -/
theorem life_form {S : List Sp} (h : OkS S) : lifeL (nmL (spj S)) = S := by
  have hr := h.rng
  have hlt := nm_lt hr
  have hb : ∀ x ∈ S.map Prod.fst, x < 1125899906842624 := fun x hx => by
    obtain ⟨s, hs, rfl⟩ := List.mem_map.1 hx
    have := hr s hs; omega
  have hcb : ∀ p, (begL (nmL (spj S))).count p = (S.map Prod.fst).count p ∧ (p < 1125899906842624 → (endL (nmL (spj S))).count p = (S.map Prod.snd).count p) := fun p => by
    by_cases hp : p < 1125899906842624
    · have h1 := nm_nt hr hp
      have h2 := nm_off (g := spj S) p
      have h3 : (S.map Prod.fst).count p = 0 ∨ (S.map Prod.snd).count p = 0 := by
        by_cases k : (S.map Prod.fst).count p = 0
        · exact .inl k
        · right
          rw [List.count_eq_zero]
          intro h4
          have h5 : p ∈ S.map Prod.fst := List.count_pos_iff.1 (by omega)
          obtain ⟨s, hs, e1⟩ := List.mem_map.1 h5
          obtain ⟨u, hu, e2⟩ := List.mem_map.1 h4
          exact h.off s hs u hu (e1.trans e2.symm)
      omega
    · refine ⟨?_, fun k => absurd k hp⟩
      rw [count_above (fun x hx => by obtain ⟨j, hj, rfl, -⟩ := begL_mem hx; exact hlt j hj) (by omega), count_above hb (by omega)]
  have e1 : begL (nmL (spj S)) = S.map Prod.fst := sort_unique _ _ (begL_sorted (nm_asc _)) h.fst fun p => (hcb p).1
  have e2 : endL (nmL (spj S)) = (S.map Prod.snd).filter fun x => decide (x < 1125899906842624) := by
    refine sort_unique _ _ (endL_sorted (nm_asc _)) (h.snd.sublist List.filter_sublist) fun p => ?_
    by_cases hp : p < 1125899906842624
    · rw [(hcb p).2 hp, List.count_filter (by simpa using hp)]
    · rw [count_above (fun x hx => by obtain ⟨j, hj, rfl, -⟩ := endL_mem hx; exact hlt j hj) (by omega), count_above (fun x hx => by have := (List.mem_filter.1 hx).2; simpa using this) (by omega)]
  unfold lifeL
  rw [e1, e2]
  exact spL_filter h.snd fun s hs => (hr s hs).2.2
/-- What of lifetimes is ahead of a place, and from it on. -/
def spAh (t : Int) (s : Sp) : List Sp := if s.1 < t then [(s.1, min s.2 t)] else []
def spRe (t : Int) (s : Sp) : List Sp := if t < s.2 then [(max s.1 t, s.2)] else []
theorem mem_spAh {t : Int} {S : List Sp} {x : Sp} (h : x ∈ S.flatMap (spAh t)) : ∃ s ∈ S, s.1 < t ∧ x = (s.1, min s.2 t) := by
  obtain ⟨s, hs, h⟩ := List.mem_flatMap.1 h
  unfold spAh at h
  split at h
  · rename_i h1; exact ⟨s, hs, h1, by simpa using h⟩
  · simp at h
theorem ah_sorted {t : Int} : ∀ {S : List Sp}, (S.map Prod.fst).Pairwise (· ≤ ·) → (S.map Prod.snd).Pairwise (· ≤ ·) → ((S.flatMap (spAh t)).map Prod.fst).Pairwise (· ≤ ·) ∧ ((S.flatMap (spAh t)).map Prod.snd).Pairwise (· ≤ ·)
  | [], _, _ => ⟨List.Pairwise.nil, List.Pairwise.nil⟩
  | s :: S, h, k => by
    obtain ⟨h1, h2⟩ := List.pairwise_cons.1 h
    obtain ⟨k1, k2⟩ := List.pairwise_cons.1 k
    obtain ⟨i1, i2⟩ := ah_sorted h2 k2
    rw [List.flatMap_cons]
    by_cases hs : s.1 < t
    · have e : spAh t s = [(s.1, min s.2 t)] := if_pos hs
      rw [e, List.singleton_append, List.map_cons, List.map_cons, List.pairwise_cons, List.pairwise_cons]
      refine ⟨⟨fun x hx => ?_, i1⟩, fun x hx => ?_, i2⟩
      · obtain ⟨u, hu, rfl⟩ := List.mem_map.1 hx
        obtain ⟨v, hv, -, rfl⟩ := mem_spAh hu
        exact h1 v.1 (List.mem_map_of_mem hv)
      · obtain ⟨u, hu, rfl⟩ := List.mem_map.1 hx
        obtain ⟨v, hv, -, rfl⟩ := mem_spAh hu
        have := k1 v.2 (List.mem_map_of_mem hv)
        simp only
        omega
    · have e : spAh t s = [] := if_neg hs
      rw [e, List.nil_append]
      exact ⟨i1, i2⟩
/-- Both parts of lifetimes in form are in form. -/
theorem ah_ok {S : List Sp} (h : OkS S) (t : Int) (h0 : 0 ≤ t) (hF : t ≤ 1125899906842624) : OkS (S.flatMap (spAh t)) := by
  obtain ⟨h1, h2⟩ := ah_sorted (t := t) h.fst h.snd
  refine ⟨h1, h2, fun x hx => ?_, fun x hx y hy => ?_⟩
  · obtain ⟨s, hs, k, rfl⟩ := mem_spAh hx
    have := h.rng s hs
    simp only
    omega
  · obtain ⟨s, hs, k, rfl⟩ := mem_spAh hx
    obtain ⟨u, hu, k2, rfl⟩ := mem_spAh hy
    have := h.off s hs u hu
    simp only
    omega
/-- The jumps of what is ahead of a place are the function ahead of it. -/
theorem ah_jv {S : List Sp} (hr : ∀ s ∈ S, -1 ≤ s.1 ∧ s.1 < s.2 ∧ s.2 ≤ 1125899906842624) (t u : Int) : jv (spj (S.flatMap (spAh t))) u = if u < t then jv (spj S) u else 0 := by
  induction S with
  | nil => simp [spj, jv]
  | cons s S ih =>
    have := hr s (by simp)
    rw [List.flatMap_cons, spj_append, jv_append, ih fun x hx => hr x (by simp [hx]), spj_cons, jv, jv]
    unfold spAh
    by_cases hs : s.1 < t
    · rw [if_pos hs]
      simp only [spj, List.flatMap_cons, List.flatMap_nil, List.append_nil, jv]
      by_cases hu : u < t
      · simp only [if_pos hu]
        by_cases h1 : s.2 ≤ u
        · rw [if_pos (show min s.2 t ≤ u by omega), if_pos h1]; omega
        · rw [if_neg (show ¬ min s.2 t ≤ u by omega), if_neg h1]; omega
      · simp only [if_neg hu]
        rw [if_pos (show s.1 ≤ u by omega), if_pos (show min s.2 t ≤ u by omega)]; omega
    · rw [if_neg hs]
      simp only [spj, List.flatMap_nil, jv]
      by_cases hu : u < t
      · simp only [if_pos hu]
        rw [if_neg (show ¬ s.1 ≤ u by omega), if_neg (show ¬ s.2 ≤ u by omega)]; omega
      · simp only [if_neg hu]; rfl
/-- Nowhere below 0. -/
theorem jv_pos {S : List Sp} (hr : ∀ s ∈ S, s.1 < s.2) (t : Int) : 0 ≤ jv (spj S) t := by
  induction S with
  | nil => exact Int.le_refl _
  | cons s S ih =>
    have h1 := ih fun x hx => hr x (by simp [hx])
    have h2 := hr s (by simp)
    rw [spj_cons, jv, jv]
    simp only
    split <;> split <;> omega
theorem leV_pos {f : List Jp} (h : ∀ t, t < 1125899906842624 → 0 ≤ jv f t) (hm : mayJ f = true) : 0 ≤ leV f := by
  unfold leV
  rw [if_pos hm]
  have key : ∀ (g : List Jp) (m : Int), 0 ≤ m → (∀ j ∈ g, 0 ≤ jv f j.1) → 0 ≤ leF f m g := by
    intro g
    induction g with
    | nil => intro m h _; exact h
    | cons a r ih => intro m h k; exact ih (min m (jv f a.1)) (by have := k a (by simp); omega) fun j hj => k j (by simp [hj])
  exact key f _ (h (-1) (by omega)) fun j hj => h j.1 (mayJ_at hm j hj).2
/-- Few lifetimes have a function. -/
theorem few_may {S : List Sp} (hr : ∀ s ∈ S, -1 ≤ s.1 ∧ s.1 < s.2 ∧ s.2 ≤ 1125899906842624) (hl : S.length ≤ 512) : mayJ (nmL (spj S)) = true := by
  have hlen : ∀ (v : Int → Int) (ps : List Int) (was : Int), (tell v ps was).length ≤ ps.length := by
    intro v ps
    induction ps with
    | nil => intro was; simp [tell]
    | cons p r ih =>
      intro was
      rw [tell]
      split
      · have := ih (v p); rw [List.length_cons]; omega
      · have := ih (v p); rw [List.length_cons, List.length_cons]; omega
  have hnt : ∀ p, -(S.length : Int) ≤ nt (spj S) p ∧ nt (spj S) p ≤ S.length := fun p => by
    rw [spj_nt]
    have h1 := List.count_le_length (a := p) (l := S.map Prod.fst)
    have h2 := List.count_le_length (a := p) (l := S.map Prod.snd)
    rw [List.length_map] at h1 h2
    omega
  have hfine := okS_fine hr
  rw [mayJ_iff]
  refine ⟨?_, fun j hj => ?_, nm_asc _⟩
  · have h1 := hlen (jv (spj S)) (plc [] (inF (spj S))) 0
    have h2 := plc_length (inF (spj S)) [] Asc.nil'
    have h3 : (inF (spj S)).length ≤ (spj S).length := List.length_filter_le _ _
    rw [spj_len] at h3
    have h4 : (nmL (spj S)).length ≤ (plc [] (inF (spj S))).length := h1
    simp only [List.length_nil] at h2
    omega
  · have h1 := nt_mem (nm_asc (spj S)) hj
    have h2 := nm_lt hr j hj
    have h3 := (tell_mem _ _ _ j hj)
    rw [← jv_nt, nmL_val _ (fun j hj => (hfine j hj).2) _ h2, nmL_val _ (fun j hj => (hfine j hj).2) _ (by omega), jv_nt] at h1
    have h4 := hnt j.1
    obtain ⟨k, hk, e⟩ := (plc0_mem _ _).1 h3.1
    have h5 : -1 ≤ k.1 := by
      have hk' : k ∈ spj S := (List.mem_filter.1 hk).1
      rcases spj_mem hk' with ⟨s, hs, rfl⟩ | ⟨s, hs, rfl⟩ <;> (have := hr s hs; simp only; omega)
    rw [okJ_iff]
    exact ⟨by omega, h2, h3.2, by omega, by omega⟩
end Go.Proofs.YtobmjcehgpmfgaaGreat
