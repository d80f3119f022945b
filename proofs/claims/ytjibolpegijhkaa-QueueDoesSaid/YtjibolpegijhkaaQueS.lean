/-
  A helper of ours: no claim of its own. Layer 15 (queue): heaps and things in the order in which they came, as lists.
-/
import Derived.WalkKit
set_option linter.unusedVariables false
set_option linter.unusedSimpArgs false
namespace Go.Proofs.Ytjibolpegijhkaa
/-- A thing that waits, and its number. -/
abbrev It := (Int × Int) × Int
def isA (a b : It) : Bool := decide (a.1.1 < b.1.1 ∨ (a.2 < b.2 ∧ ¬ b.1.1 < a.1.1))
theorem isA_asym {a b : It} (h : isA a b = true) : isA b a = false := by
  simp only [isA, decide_eq_true_iff, decide_eq_false_iff_not] at *; omega
theorem isA_neg {a b c : It} (h : isA a b = false) (k : isA b c = false) : isA a c = false := by
  simp only [isA, decide_eq_false_iff_not] at *; omega
theorem isA_self (a : It) : isA a a = false := by simp only [isA, decide_eq_false_iff_not]; omega
def Hp (H : List It) : Prop := ∀ j x y, 0 < j → H[j]? = some x → H[(j - 1) / 2]? = some y → isA x y = false
def HpUp (H : List It) (i : Nat) : Prop := (∀ j x y, 0 < j → j ≠ i → H[j]? = some x → H[(j - 1) / 2]? = some y → isA x y = false) ∧
  (∀ j x y, 0 < j → 0 < i → (j - 1) / 2 = i → H[j]? = some x → H[(i - 1) / 2]? = some y → isA x y = false)
def HpDn (H : List It) (i : Nat) : Prop := (∀ j x y, 0 < j → (j - 1) / 2 ≠ i → H[j]? = some x → H[(j - 1) / 2]? = some y → isA x y = false) ∧
  (∀ j x y, 0 < j → 0 < i → (j - 1) / 2 = i → H[j]? = some x → H[(i - 1) / 2]? = some y → isA x y = false)
/-- Two items change places. -/
def swp (H : List It) (i j : Nat) : List It := (H.set i (H[j]?.getD default)).set j (H[i]?.getD default)
theorem swp_get {H : List It} {i j k : Nat} {x y : It} (hx : H[i]? = some x) (hy : H[j]? = some y) (hij : i ≠ j) : (swp H i j)[k]? = if k = i then some y else if k = j then some x else H[k]? := by
  have hi : i < H.length := (List.getElem?_eq_some_iff.1 hx).1
  have hj : j < H.length := (List.getElem?_eq_some_iff.1 hy).1
  unfold swp
  rw [hx, hy, List.getElem?_set, List.getElem?_set]
  simp only [Option.getD_some, List.length_set]
  by_cases h1 : k = i
  · subst h1; rw [if_neg (by omega), if_pos rfl, if_pos hi, if_pos rfl]
  · by_cases h2 : k = j
    · subst h2; rw [if_pos rfl, if_pos hj, if_neg h1, if_pos rfl]
    · rw [if_neg (by omega), if_neg (by omega), if_neg h1, if_neg h2]
theorem swp_length (H : List It) (i j : Nat) : (swp H i j).length = H.length := by simp [swp]
theorem swp_perm {H : List It} {i j : Nat} {x y : It} (hx : H[i]? = some x) (hy : H[j]? = some y) (hij : i ≠ j) : (swp H i j).Perm H := by
  have hi : i < H.length := (List.getElem?_eq_some_iff.1 hx).1
  have hj : j < H.length := (List.getElem?_eq_some_iff.1 hy).1
  rw [List.perm_iff_count]
  intro c
  unfold swp
  have e1 : H[i] = x := (List.getElem?_eq_some_iff.1 hx).2
  have e2 : H[j] = y := (List.getElem?_eq_some_iff.1 hy).2
  rw [hx, hy, List.count_set (by simpa using hj), List.count_set hi]
  simp only [Option.getD_some]
  simp only [List.getElem_set_ne hij, e1, e2]
  by_cases h1 : x == c
  · have : 0 < H.count c := List.count_pos_iff.2 (by rw [← eq_of_beq h1, ← e1]; exact List.getElem_mem hi)
    by_cases h2 : y == c <;> simp [h1, h2] <;> omega
  · by_cases h2 : y == c
    · have : 0 < H.count c := List.count_pos_iff.2 (by rw [← eq_of_beq h2, ← e2]; exact List.getElem_mem hj)
      simp [h1, h2]; try omega
    · simp [h1, h2]
theorem up_zero {H : List It} (h : HpUp H 0) : Hp H := fun j x y hj hx hy => h.1 j x y hj (by omega) hx hy
theorem up_stop {H : List It} {i : Nat} {x y : It} (h : HpUp H i) (hi : 0 < i) (hx : H[i]? = some x) (hy : H[(i - 1) / 2]? = some y) (ha : isA y x = true) : Hp H := fun j u v hj hu hv => by
  by_cases e : j = i
  · subst e; rw [hx] at hu; rw [hy] at hv; cases hu; cases hv; exact isA_asym ha
  · exact h.1 j u v hj e hu hv
theorem up_step {H : List It} {i : Nat} {x y : It} (h : HpUp H i) (hi : 0 < i) (hx : H[i]? = some x) (hy : H[(i - 1) / 2]? = some y) (ha : isA y x = false) : HpUp (swp H i ((i - 1) / 2)) ((i - 1) / 2) := by
  have hne : i ≠ (i - 1) / 2 := by omega
  constructor
  · intro j u v hj hja hu hv
    rw [swp_get hx hy hne] at hu hv
    by_cases e1 : j = i
    · subst e1
      rw [if_pos rfl] at hu
      rw [if_neg (by omega), if_pos rfl] at hv
      cases hu; cases hv; exact ha
    · rw [if_neg e1, if_neg hja] at hu
      by_cases e2 : (j - 1) / 2 = i
      · rw [if_pos e2] at hv; cases hv
        exact h.2 j u y hj hi e2 hu hy
      · rw [if_neg e2] at hv
        by_cases e3 : (j - 1) / 2 = (i - 1) / 2
        · rw [if_pos e3] at hv; cases hv
          exact isA_neg (h.1 j u y hj e1 hu (by rw [e3]; exact hy)) ha
        · rw [if_neg e3] at hv
          exact h.1 j u v hj e1 hu hv
  · intro j u v hj ha0 hja hu hv
    rw [swp_get hx hy hne] at hu hv
    rw [if_neg (by omega), if_neg (by omega)] at hv
    have hyv := h.1 _ y v ha0 (by omega) hy hv
    by_cases e1 : j = i
    · subst e1; rw [if_pos rfl] at hu; cases hu; exact hyv
    · rw [if_neg e1, if_neg (by omega)] at hu
      exact isA_neg (h.1 j u y hj e1 hu (by rw [hja]; exact hy)) hyv
theorem dn_stop {H : List It} {i : Nat} {x : It} (h : HpDn H i) (hx : H[i]? = some x) (h1 : ∀ y, H[2 * i + 1]? = some y → isA y x = false) (h2 : ∀ y, H[2 * i + 2]? = some y → isA y x = false) : Hp H := fun j u v hj hu hv => by
  by_cases e : (j - 1) / 2 = i
  · rw [e, hx] at hv; cases hv
    rcases (by omega : j = 2 * i + 1 ∨ j = 2 * i + 2) with rfl | rfl
    · exact h1 u hu
    · exact h2 u hu
  · exact h.1 j u v hj e hu hv
theorem dn_step {H : List It} {i c : Nat} {x y : It} (h : HpDn H i) (hc : (c - 1) / 2 = i) (hc0 : 0 < c) (hx : H[i]? = some x) (hy : H[c]? = some y) (ha : isA y x = true)
    (hd : ∀ d u, (d - 1) / 2 = i → 0 < d → H[d]? = some u → isA u y = false) : HpDn (swp H i c) c := by
  have hne : i ≠ c := by omega
  constructor
  · intro j u v hj hjc hu hv
    rw [swp_get hx hy hne] at hu hv
    by_cases e1 : j = c
    · subst e1
      rw [if_neg (by omega), if_pos rfl] at hu
      rw [if_pos hc] at hv
      cases hu; cases hv; exact isA_asym ha
    · by_cases e2 : j = i
      · subst e2
        rw [if_pos rfl] at hu
        rw [if_neg (by omega), if_neg (by omega)] at hv
        cases hu
        exact h.2 c y v hc0 hj hc hy hv
      · rw [if_neg e2, if_neg e1] at hu
        by_cases e3 : (j - 1) / 2 = i
        · rw [if_pos e3] at hv; cases hv; exact hd j u e3 hj hu
        · rw [if_neg e3, if_neg hjc] at hv; exact h.1 j u v hj e3 hu hv
  · intro j u v hj _ hjc hu hv
    rw [swp_get hx hy hne] at hu hv
    rw [hc, if_pos rfl] at hv
    rw [if_neg (by omega), if_neg (by omega)] at hu
    cases hv
    exact h.1 j u y hj (by omega) hu (by rw [hjc]; exact hy)
theorem hp_root {H : List It} (h : Hp H) {r : It} (hr : H[0]? = some r) : ∀ (n j : Nat), j ≤ n → ∀ x, H[j]? = some x → isA x r = false
  | 0, j, hj, x, hx => by obtain rfl : j = 0 := by omega
                          rw [hr] at hx; cases hx; exact isA_self _
  | n + 1, j, hj, x, hx => by
    rcases Nat.eq_zero_or_pos j with rfl | h0
    · rw [hr] at hx; cases hx; exact isA_self _
    · have hjl : j < H.length := (List.getElem?_eq_some_iff.1 hx).1
      obtain ⟨y, hy⟩ : ∃ y, H[(j - 1) / 2]? = some y := ⟨_, List.getElem?_eq_getElem (by omega)⟩
      exact isA_neg (h j x y h0 hx hy) (hp_root h hr n _ (by omega) y hy)
theorem hp_push {H : List It} (h : Hp H) (x : It) : HpUp (H ++ [x]) H.length := by
  constructor
  · intro j u v hj hne hu hv
    have hjl : j < H.length := by have := (List.getElem?_eq_some_iff.1 hu).1; simp at this; omega
    rw [List.getElem?_append_left hjl] at hu
    rw [List.getElem?_append_left (by omega)] at hv
    exact h j u v hj hu hv
  · intro j u v hj h0 he hu hv
    have := (List.getElem?_eq_some_iff.1 hu).1
    simp at this; omega
/-- What is left ahead of sinking. -/
def cutd (H : List It) : List It := (H.set 0 (H[H.length - 1]?.getD default)).take (H.length - 1)
theorem cutd_get {H : List It} {z : It} (hz : H[H.length - 1]? = some z) (k : Nat) (hk : k < H.length - 1) : (cutd H)[k]? = if k = 0 then some z else H[k]? := by
  unfold cutd
  rw [hz, List.getElem?_take, if_pos hk, List.getElem?_set]
  simp only [Option.getD_some]
  by_cases h : k = 0
  · subst h; rw [if_pos rfl, if_pos (by omega), if_pos rfl]
  · rw [if_neg (by omega), if_neg h]
theorem cutd_length (H : List It) : (cutd H).length = H.length - 1 := by unfold cutd; rw [List.length_take, List.length_set]; omega
theorem hp_cut {H : List It} (h : Hp H) : HpDn (cutd H) 0 := by
  constructor
  · intro j u v hj hne hu hv
    have hjl : j < H.length - 1 := by have := (List.getElem?_eq_some_iff.1 hu).1; rwa [cutd_length] at this
    obtain ⟨z, hz⟩ : ∃ z, H[H.length - 1]? = some z := ⟨_, List.getElem?_eq_getElem (by omega)⟩
    rw [cutd_get hz _ hjl, if_neg (by omega)] at hu
    rw [cutd_get hz _ (by omega), if_neg hne] at hv
    exact h j u v hj hu hv
  · intro j u v hj h0; omega
theorem cut_perm {H : List It} {r : It} (hr : H[0]? = some r) : H.Perm (r :: cutd H) := by
  rcases H with _ | ⟨a, t⟩
  · simp at hr
  · simp only [List.getElem?_cons_zero, Option.some.injEq] at hr
    subst hr
    refine List.Perm.cons a ?_
    rcases List.eq_nil_or_concat t with rfl | ⟨m, z, rfl⟩
    · simp [cutd]
    · simp only [List.concat_eq_append]
      unfold cutd
      have e : (a :: (m ++ [z])).length - 1 = m.length + 1 := by simp
      rw [e]
      have e2 : (a :: (m ++ [z]))[m.length + 1]? = some z := by simp
      rw [e2]
      simp only [Option.getD_some, List.set_cons_zero, List.take_succ_cons]
      rw [List.take_left]
      exact List.perm_append_comm
/-- The place of the first one. -/
def Fst (L : List (Int × Int)) (i : Nat) : Prop := ∃ x, L[i]? = some x ∧ (∀ j y, j < i → L[j]? = some y → x.1 < y.1) ∧ (∀ j y, i ≤ j → L[j]? = some y → x.1 ≤ y.1)
theorem fst_one {L : List (Int × Int)} {i j : Nat} (h : Fst L i) (k : Fst L j) : i = j := by
  obtain ⟨x, hx, h1, h2⟩ := h
  obtain ⟨y, hy, k1, k2⟩ := k
  rcases Nat.lt_trichotomy i j with h | h | h
  · have := k1 i x h hx; have := h2 j y (by omega) hy; omega
  · exact h
  · have := h1 j y h hy; have := k2 i x (by omega) hx; omega
/-- Things in the order in which they came, with numbers that rise below a bound. -/
def Nums (P : List It) (n : Int) : Prop := P.Pairwise (fun a b => a.2 < b.2) ∧ ∀ p ∈ P, p.2 < n
theorem nums_snoc {P : List It} {n : Int} (h : Nums P n) (x : Int × Int) : Nums (P ++ [(x, n)]) (n + 1) := by
  refine ⟨List.pairwise_append.2 ⟨h.1, by simp, ?_⟩, ?_⟩
  · intro a ha b hb; simp at hb; subst hb; exact h.2 a ha
  · intro p hp; simp at hp; rcases hp with hp | rfl
    · have := h.2 p hp; omega
    · simp only; omega
theorem nums_erase {P : List It} {n : Int} (h : Nums P n) (i : Nat) : Nums (P.eraseIdx i) n :=
  ⟨h.1.sublist (List.eraseIdx_sublist _ _), fun p hp => h.2 p (List.mem_of_mem_eraseIdx hp)⟩
theorem root_first {H P : List It} {n : Int} {r : It} (hp : Hp H) (hperm : H.Perm P) (hn : Nums P n) (hr : H[0]? = some r) : ∃ i, P[i]? = some r ∧ Fst (P.map (·.1)) i ∧ (cutd H).Perm (P.eraseIdx i) := by
  have hrm : r ∈ P := hperm.mem_iff.1 (List.mem_of_getElem? hr)
  obtain ⟨i, hi⟩ := List.getElem?_of_mem hrm
  have hmin : ∀ p ∈ P, isA p r = false := fun p hpm => by
    obtain ⟨j, hj⟩ := List.getElem?_of_mem (hperm.mem_iff.2 hpm)
    exact hp_root hp hr j j (Nat.le_refl _) p hj
  refine ⟨i, hi, ⟨r.1, by rw [List.getElem?_map, hi]; rfl, ?_, ?_⟩, ?_⟩
  · intro j y hj hy
    rw [List.getElem?_map, Option.map_eq_some_iff] at hy
    obtain ⟨p, hp1, rfl⟩ := hy
    have h1 := hmin p (List.mem_of_getElem? hp1)
    obtain ⟨hil, ei⟩ := List.getElem?_eq_some_iff.1 hi
    obtain ⟨hjl, ej⟩ := List.getElem?_eq_some_iff.1 hp1
    have h2 := List.pairwise_iff_getElem.1 hn.1 j i hjl hil hj
    rw [ei, ej] at h2
    simp only [isA, decide_eq_false_iff_not] at h1
    omega
  · intro j y hj hy
    rw [List.getElem?_map, Option.map_eq_some_iff] at hy
    obtain ⟨p, hp1, rfl⟩ := hy
    have h1 := hmin p (List.mem_of_getElem? hp1)
    simp only [isA, decide_eq_false_iff_not] at h1
    omega
  · have h1 := cut_perm hr
    have h2 : P.Perm (r :: P.eraseIdx i) := by
      obtain ⟨hil, ei⟩ := List.getElem?_eq_some_iff.1 hi
      have e : P = P.take i ++ r :: P.drop (i + 1) := by rw [← ei, List.getElem_cons_drop, List.take_append_drop]
      rw [List.eraseIdx_eq_take_drop_succ]
      exact (List.Perm.of_eq e).trans List.perm_middle
    exact (List.perm_cons r).1 (h1.symm.trans (hperm.trans h2))
theorem map_erase (P : List It) (i : Nat) : (P.eraseIdx i).map (·.1) = (P.map (·.1)).eraseIdx i := by
  rw [List.eraseIdx_eq_take_drop_succ, List.eraseIdx_eq_take_drop_succ, List.map_append, List.map_take, List.map_drop]

/-- The place of the first one, by going through. -/
def fstF : List (Int × Int) → Nat
  | [] => 0
  | x :: r => match r[fstF r]? with
    | none => 0
    | some y => if y.1 < x.1 then fstF r + 1 else 0
theorem fstF_spec : ∀ (L : List (Int × Int)), L ≠ [] → Fst L (fstF L)
  | [], h => absurd rfl h
  | x :: r, _ => by
    rcases r with _ | ⟨z, r⟩
    · exact ⟨x, by simp [fstF], fun j y hj => by simp [fstF] at hj, fun j y hj hy => by
        rcases j with _ | j
        · simp at hy; subst hy; omega
        · simp at hy⟩
    · obtain ⟨y, h0, h1, h2⟩ := fstF_spec (z :: r) (by simp)
      by_cases hlt : y.1 < x.1
      · have e : fstF (x :: z :: r) = fstF (z :: r) + 1 := by rw [fstF, h0]; simp only [if_pos hlt]
        rw [e]
        refine ⟨y, by simpa using h0, ?_, ?_⟩
        · intro j u hj hu
          rcases j with _ | j
          · simp at hu; subst hu; exact hlt
          · exact h1 j u (by omega) (by simpa using hu)
        · intro j u hj hu
          rcases j with _ | j
          · omega
          · exact h2 j u (by omega) (by simpa using hu)
      · have e : fstF (x :: z :: r) = 0 := by rw [fstF, h0]; simp only [if_neg hlt]
        rw [e]
        refine ⟨x, by simp, fun j u hj => by omega, ?_⟩
        intro j u hj hu
        rcases j with _ | j
        · simp at hu; subst hu; omega
        · have hu' : (z :: r)[j]? = some u := by simpa using hu
          rcases Nat.lt_or_ge j (fstF (z :: r)) with h | h
          · have := h1 j u h hu'; omega
          · have := h2 j u h hu'; omega
def popL (L : List (Int × Int)) : List (Int × Int) := L.eraseIdx (fstF L)
def hdL (L : List (Int × Int)) : Int × Int := L[fstF L]?.getD (0, 0)
def pkL : Nat → List (Int × Int) → List (Int × Int)
  | 0, L => L
  | k + 1, L => popL (pkL k L)
def outs (k : Nat) (L : List (Int × Int)) : List (Int × Int) := (List.range k).map fun i => hdL (pkL i L)
theorem outs_next (k : Nat) (L : List (Int × Int)) : outs (k + 1) L = outs k L ++ [hdL (pkL k L)] := by simp [outs, List.range_succ]
theorem outs_length (k : Nat) (L : List (Int × Int)) : (outs k L).length = k := by simp [outs]
theorem fst_lt {L : List (Int × Int)} {i : Nat} (h : Fst L i) : i < L.length := by obtain ⟨x, hx, _⟩ := h; exact (List.getElem?_eq_some_iff.1 hx).1
theorem popL_length {L : List (Int × Int)} (h : L ≠ []) : (popL L).length = L.length - 1 := by
  unfold popL; rw [List.length_eraseIdx_of_lt (fst_lt (fstF_spec L h))]
theorem pkL_length (L : List (Int × Int)) : ∀ k, k ≤ L.length → (pkL k L).length = L.length - k
  | 0, _ => by simp [pkL]
  | k + 1, h => by
    have ih := pkL_length L k (by omega)
    rw [pkL, popL_length (by intro e; rw [e] at ih; simp at ih; omega), ih]; omega
theorem hdL_get {L : List (Int × Int)} {i : Nat} (h : Fst L i) : L[i]? = some (hdL L) ∧ popL L = L.eraseIdx i := by
  have hne : L ≠ [] := by intro e; subst e; have := fst_lt h; simp at this
  have e := fst_one h (fstF_spec L hne)
  obtain ⟨x, hx, _⟩ := h
  constructor
  · rw [hx]; unfold hdL; rw [← e, hx]; rfl
  · unfold popL; rw [e]
theorem hd_pop {L : List (Int × Int)} (h : popL L ≠ []) : (hdL L).1 ≤ (hdL (popL L)).1 := by
  have hne : L ≠ [] := by intro e; subst e; exact h rfl
  obtain ⟨x, hx, h1, h2⟩ := fstF_spec L hne
  have e1 : hdL L = x := by unfold hdL; rw [hx]; rfl
  obtain ⟨y, hy, _⟩ := fstF_spec (popL L) h
  have e2 : hdL (popL L) = y := by unfold hdL; rw [hy]; rfl
  rw [e1, e2]
  have hm : y ∈ L := by unfold popL at hy; exact List.mem_of_mem_eraseIdx (List.mem_of_getElem? hy)
  obtain ⟨j, hj⟩ := List.getElem?_of_mem hm
  rcases Nat.lt_or_ge j (fstF L) with h | h
  · have := h1 j y h hj; omega
  · exact h2 j y h hj
theorem outs_perm (L : List (Int × Int)) : ∀ k, k ≤ L.length → (outs k L ++ pkL k L).Perm L
  | 0, _ => by simp [outs, pkL]
  | k + 1, h => by
    refine List.Perm.trans ?_ (outs_perm L k (by omega))
    rw [outs_next, List.append_assoc]
    refine List.Perm.append_left _ ?_
    have hl := pkL_length L k (by omega)
    have hne : pkL k L ≠ [] := by intro e; rw [e] at hl; simp at hl; omega
    have hf := fstF_spec _ hne
    obtain ⟨h1, h2⟩ := hdL_get hf
    rw [pkL, h2]
    obtain ⟨hil, ei⟩ := List.getElem?_eq_some_iff.1 h1
    have e : pkL k L = (pkL k L).take (fstF (pkL k L)) ++ hdL (pkL k L) :: (pkL k L).drop (fstF (pkL k L) + 1) := by
      conv => rhs; rw [← ei]
      rw [List.getElem_cons_drop, List.take_append_drop]
    rw [List.eraseIdx_eq_take_drop_succ]
    exact (List.perm_middle (a := hdL (pkL k L)) (l₁ := (pkL k L).take (fstF (pkL k L))) (l₂ := (pkL k L).drop (fstF (pkL k L) + 1))).symm.trans (List.Perm.of_eq e.symm)
theorem outs_all (L : List (Int × Int)) : (outs L.length L).Perm L := by
  have h := outs_perm L L.length (Nat.le_refl _)
  have e : pkL L.length L = [] := List.eq_nil_of_length_eq_zero (by rw [pkL_length _ _ (Nat.le_refl _)]; omega)
  rw [e, List.append_nil] at h
  exact h
theorem outs_rise (L : List (Int × Int)) (k : Nat) (h : k + 1 < L.length) : (hdL (pkL k L)).1 ≤ (hdL (pkL (k + 1) L)).1 := by
  have hl := pkL_length L (k + 1) (by omega)
  exact hd_pop (by intro e; rw [pkL, e] at hl; simp at hl; omega)
/-- Things are taken out as long as they are below a bound: so many. -/
def whF (b : Int) (L : List (Int × Int)) : Nat → Nat → Nat
  | 0, k => k
  | f + 1, k => if (hdL (pkL k L)).1 < b then whF b L f (k + 1) else k
def whN (b : Int) (L : List (Int × Int)) : Nat := whF b L L.length 0
theorem whF_is {b : Int} {L : List (Int × Int)} {n : Nat} : ∀ (f k : Nat), k ≤ n → n ≤ k + f → (∀ i, k ≤ i → i < n → (hdL (pkL i L)).1 < b) → (n = k + f ∨ ¬ (hdL (pkL n L)).1 < b) → whF b L f k = n
  | 0, k, h1, h2, _, _ => by simp only [whF]; omega
  | f + 1, k, h1, h2, h3, h4 => by
    rw [whF]
    by_cases e : k = n
    · subst e
      rw [if_neg (by rcases h4 with h | h; · omega
                     · exact h)]
    · rw [if_pos (h3 k (Nat.le_refl _) (by omega))]
      exact whF_is f (k + 1) (by omega) (by omega) (fun i hi => h3 i (by omega)) (by omega)
theorem whN_is {b : Int} {L : List (Int × Int)} {n : Nat} (h : n ≤ L.length) (h1 : ∀ i, i < n → (hdL (pkL i L)).1 < b) (h2 : n = L.length ∨ ¬ (hdL (pkL n L)).1 < b) : whN b L = n :=
  whF_is _ _ (Nat.zero_le _) (by omega) (fun i _ => h1 i) (by omega)
end Go.Proofs.Ytjibolpegijhkaa
