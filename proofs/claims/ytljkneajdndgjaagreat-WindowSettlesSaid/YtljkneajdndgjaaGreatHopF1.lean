/-
  A helper of ours: no claim of its own. Layer 28 (hop): windows from a tick on hang on what is there from the tick on (lists alone).
-/
import Derived.Test.YtljkneajdndgjaaGreatHopS
import Derived.Test.YtljkneajdndgjaaGreatHopL
import Derived.Test.YtljkneajdndgjaaGreatSnaS
set_option linter.unusedVariables false
set_option linter.unusedSimpArgs false
namespace Go.Proofs.YtljkneajdndgjaaGreat
open Go.RowKit
theorem hT_mem {h a e t : Int} (hh : 1 ≤ h) : t ∈ hT h a e ↔ ∃ i : Nat, t = a + (i : Int) * h ∧ t < e := by
  unfold hT
  rw [List.mem_map]
  constructor
  · rintro ⟨i, hi, rfl⟩
    exact ⟨i, rfl, (hN_lt hh i).1 (List.mem_range.1 hi)⟩
  · rintro ⟨i, rfl, h2⟩
    exact ⟨i, List.mem_range.2 ((hN_lt hh i).2 h2), rfl⟩
/-- Multiples of a hop. -/
def Mul (h t : Int) : Prop := ∃ n : Nat, t = (n : Int) * h
theorem hcnt_le {h x : Int} (hh : 1 ≤ h) (n : Nat) : hcnt h x * h ≤ (n : Int) * h ↔ x ≤ (n : Int) * h := by
  unfold hcnt
  split
  · have h0 : 0 ≤ (n : Int) * h := Int.mul_nonneg (by omega) (by omega)
    omega
  · have e1 : (x - 1) / h < n ↔ x - 1 < (n : Int) * h := Int.ediv_lt_iff_lt_mul (by omega)
    constructor
    · intro h1
      have h2 : (x - 1) / h + 1 ≤ n := by
        refine Classical.byContradiction fun hn => ?_
        have h3 : (n : Int) + 1 ≤ (x - 1) / h + 1 := by omega
        have h4 := Int.mul_le_mul_of_nonneg_right h3 (show (0 : Int) ≤ h by omega)
        rw [Int.add_mul] at h4
        omega
      have := e1.1 (by omega)
      omega
    · intro h1
      have h2 := e1.2 (by omega)
      exact Int.mul_le_mul_of_nonneg_right (by omega) (by omega)
theorem hcnt_nat {h x : Int} (hh : 1 ≤ h) : ∃ n : Nat, hcnt h x = n := by
  unfold hcnt
  split
  · exact ⟨0, rfl⟩
  · have e0 : 0 ≤ (x - 1) / h := Int.ediv_nonneg (by omega) (by omega)
    exact ⟨((x - 1) / h + 1).toNat, by omega⟩
theorem hbeg_mem {h x e t : Int} (hh : 1 ≤ h) (he : e ≤ 1125899906842624) : t ∈ hT h (hbeg h x) e ↔ Mul h t ∧ x ≤ t ∧ t < e := by
  rw [hT_mem hh]
  obtain ⟨m, hm⟩ := hcnt_nat (x := x) hh
  have hc := hcnt_le (x := x) hh
  rw [hm] at hc
  constructor
  · rintro ⟨i, ht, hte⟩
    have h0 : 0 ≤ (i : Int) * h := Int.mul_nonneg (by omega) (by omega)
    unfold hbeg at ht
    rw [hm] at ht
    split at ht
    · have h1 := (hc m).1 (Int.le_refl _)
      exact ⟨⟨m + i, by rw [ht]; push_cast; rw [Int.add_mul]⟩, by omega, hte⟩
    · omega
  · rintro ⟨⟨n, rfl⟩, hx, hte⟩
    have h1 := (hc n).2 hx
    have hmn : m ≤ n := by
      refine Classical.byContradiction fun hn => ?_
      have h3 : (n : Int) + 1 ≤ m := by omega
      have h4 := Int.mul_le_mul_of_nonneg_right h3 (show (0 : Int) ≤ h by omega)
      rw [Int.add_mul] at h4
      omega
    unfold hbeg
    rw [hm, if_pos (by omega)]
    refine ⟨n - m, ?_, hte⟩
    rw [Int.ofNat_sub hmn, Int.sub_mul]
    omega
theorem ofU_mem {s hp r F x t : Int} {J : List Jp} {k : Nat} (hh : 1 ≤ hp) (hr : r ≤ 1125899906842624) : t ∈ ofU s hp r F J k x ↔ Mul hp t ∧ F ≤ t ∧ x < t + s ∧ t < r ∧ t < hnxJ J k := by
  unfold ofU hA
  rw [hbeg_mem hh (hZ_le hr)]
  unfold hZ
  constructor
  · rintro ⟨h1, h2, h3⟩
    refine ⟨h1, ?_⟩
    split at h2 <;> split at h3 <;> omega
  · rintro ⟨h1, h2, h3, h4, h5⟩
    refine ⟨h1, ?_, ?_⟩
    · split <;> omega
    · split <;> omega
/-- Some time at which the row is there, among the first k, shares a tick with a window. -/
def Hit (s : Int) (J : List Jp) (k : Nat) (t : Int) : Prop := ∃ i j, i < k ∧ J[i]? = some j ∧ js (J.take (i + 1)) ≠ 0 ∧ j.1 < t + s ∧ t < hnxJ J i
theorem hnxJ_mono {J : List Jp} (hm : mayJ J = true) {i k : Nat} {j : Jp} (hik : i < k) (hk : J[k]? = some j) : hnxJ J i ≤ j.1 := by
  have hkl := (List.getElem?_eq_some_iff.1 hk).1
  obtain ⟨y, hy⟩ : ∃ y, J[i + 1]? = some y := ⟨_, List.getElem?_eq_getElem (by omega)⟩
  unfold hnxJ
  rw [hy]
  show y.1 ≤ j.1
  rcases Nat.eq_or_lt_of_le (show i + 1 ≤ k from hik) with h | h
  · subst h; rw [hy] at hk; cases hk; omega
  · have h3 := List.pairwise_iff_getElem.1 (mayJ_iff.1 hm).2.2 (i + 1) k (by omega) hkl h
    rw [(List.getElem?_eq_some_iff.1 hy).2, (List.getElem?_eq_some_iff.1 hk).2] at h3
    omega
theorem mayJ_lt {J : List Jp} (hm : mayJ J = true) {i k : Nat} {x j : Jp} (hi : J[i]? = some x) (hik : i < k) (hk : J[k]? = some j) : x.1 < j.1 := by
  have h3 := List.pairwise_iff_getElem.1 (mayJ_iff.1 hm).2.2 i k (List.getElem?_eq_some_iff.1 hi).1 (List.getElem?_eq_some_iff.1 hk).1 hik
  rw [(List.getElem?_eq_some_iff.1 hi).2, (List.getElem?_eq_some_iff.1 hk).2] at h3
  exact h3
theorem ofSt_mem {s hp r f : Int} {J : List Jp} (hh : 1 ≤ hp) (hr : r ≤ 1125899906842624) (hm : mayJ J = true) : ∀ k, (∀ t, t ∈ (ofSt s hp r J f k).2 ↔ Mul hp t ∧ f ≤ t ∧ t < r ∧ Hit s J k t) ∧ (((ofSt s hp r J f k).1 = f ∨ ∃ z ∈ (ofSt s hp r J f k).2, (ofSt s hp r J f k).1 = z + 1) ∧ f ≤ (ofSt s hp r J f k).1)
  | 0 => ⟨fun t => ⟨fun h => by simp [ofSt] at h, fun ⟨_, _, _, i, j, hi, _⟩ => by omega⟩, .inl rfl, Int.le_refl _⟩
  | k + 1 => by
    obtain ⟨ih1, ih2, ih3⟩ := ofSt_mem (s := s) (f := f) hh hr hm k
    cases hj : J[k]? with
    | none =>
      have e : ofSt s hp r J f (k + 1) = ofSt s hp r J f k := by rw [ofSt, hj]
      rw [e]
      refine ⟨fun t => (ih1 t).trans ⟨fun ⟨a, b, c, i, j, hi, h⟩ => ⟨a, b, c, i, j, by omega, h⟩, fun ⟨a, b, c, i, j, hi, h⟩ => ⟨a, b, c, i, j, ?_, h⟩⟩, ih2, ih3⟩
      rcases Nat.lt_or_ge i k with h2 | h2
      · exact h2
      · obtain rfl : i = k := by omega
        rw [hj] at h; cases h.1
    | some x =>
      by_cases h0 : js (J.take (k + 1)) = 0
      · rw [ofSt_zero hj h0]
        refine ⟨fun t => (ih1 t).trans ⟨fun ⟨a, b, c, i, j, hi, h⟩ => ⟨a, b, c, i, j, by omega, h⟩, fun ⟨a, b, c, i, j, hi, h⟩ => ⟨a, b, c, i, j, ?_, h⟩⟩, ih2, ih3⟩
        rcases Nat.lt_or_ge i k with h2 | h2
        · exact h2
        · obtain rfl : i = k := by omega
          exact absurd h0 h.2.1
      · rw [ofSt_next hj h0]
        obtain ⟨F, hF⟩ : ∃ F, F = (ofSt s hp r J f k).1 := ⟨_, rfl⟩
        obtain ⟨A, hA⟩ : ∃ A, A = (ofSt s hp r J f k).2 := ⟨_, rfl⟩
        rw [← hF] at ih2 ih3
        rw [← hA] at ih1 ih2
        rw [← hF, ← hA]
        obtain ⟨U, hU⟩ : ∃ U, U = ofU s hp r F J k x.1 := ⟨_, rfl⟩
        rw [← hU]
        have hUm : ∀ t, t ∈ U ↔ Mul hp t ∧ F ≤ t ∧ x.1 < t + s ∧ t < r ∧ t < hnxJ J k := fun t => by rw [hU]; exact ofU_mem hh hr
        refine ⟨fun t => ?_, ?_, ?_⟩
        · rw [List.mem_append, ih1, hUm]
          constructor
          · rintro (⟨a, b, c, i, j, hi, h⟩ | ⟨a, b, c, d, e⟩)
            · exact ⟨a, b, c, i, j, by omega, h⟩
            · exact ⟨a, by omega, d, k, x, by omega, hj, h0, c, e⟩
          · rintro ⟨a, b, c, i, j, hi, h1, h2, h3, h4⟩
            rcases Nat.lt_or_ge i k with h5 | h5
            · exact .inl ⟨a, b, c, i, j, h5, h1, h2, h3, h4⟩
            · obtain rfl : i = k := by omega
              rw [hj] at h1
              obtain rfl := Option.some.inj h1
              by_cases hFt : F ≤ t
              · exact .inr ⟨a, hFt, h3, c, h4⟩
              · rcases ih2 with rfl | ⟨z, hz, hFz⟩
                · omega
                · obtain ⟨z1, z2, z3, i', j', hi', q1, q2, q3, q4⟩ := (ih1 z).1 hz
                  have h6 := hnxJ_mono hm hi' hj
                  have h7 := mayJ_lt hm q1 hi' hj
                  exact .inl ⟨a, b, c, i', j', hi', q1, q2, by omega, by omega⟩
        · rcases List.eq_nil_or_concat U with hn | ⟨V, z, hn⟩
          · rw [hn]
            rcases ih2 with h | ⟨z, hz, h⟩
            · exact .inl h
            · exact .inr ⟨z, List.mem_append_left _ hz, h⟩
          · refine .inr ⟨z, List.mem_append_right _ (by rw [hn]; simp), ?_⟩
            rw [hn]; simp
        · rcases List.eq_nil_or_concat U with hn | ⟨V, z, hn⟩
          · rw [hn]; exact ih3
          · obtain ⟨-, h1, -⟩ := (hUm z).1 (by rw [hn]; simp)
            rw [hn]
            simp
            omega
theorem mem_ofL {s hp r f t : Int} {J : List Jp} (hh : 1 ≤ hp) (hr : r ≤ 1125899906842624) (hm : mayJ J = true) : t ∈ ofL s hp r J f ↔ Mul hp t ∧ f ≤ t ∧ t < r ∧ Hit s J J.length t := (ofSt_mem hh hr hm J.length).1 t
theorem jv_at {J : List Jp} (hm : mayJ J = true) {i : Nat} {j : Jp} (hj : J[i]? = some j) {u : Int} (h1 : j.1 ≤ u) (h2 : u < hnxJ J i) : js (J.take (i + 1)) = jv J u := by
  rw [js_here hm hj]
  refine jv_between h1 fun x hx => ?_
  obtain ⟨k, hk⟩ := List.getElem?_of_mem hx
  rcases Nat.lt_trichotomy k i with h | h | h
  · exact .inl (by have := mayJ_lt hm hk h hj; omega)
  · subst h; rw [hj] at hk; cases hk; exact .inl (Int.le_refl _)
  · exact .inr (by have := hnxJ_mono hm h hk; omega)
theorem last_le {J : List Jp} {u : Int} (hu : u < 1125899906842624) : ∀ (d i : Nat) (j : Jp), J.length - i = d → J[i]? = some j → j.1 ≤ u → ∃ i' j', J[i']? = some j' ∧ j'.1 ≤ u ∧ u < hnxJ J i'
  | 0, i, j, hd, hj, _ => by have := (List.getElem?_eq_some_iff.1 hj).1; omega
  | d + 1, i, j, hd, hj, hju => by
    by_cases h : u < hnxJ J i
    · exact ⟨i, j, hj, hju, h⟩
    · cases hn : J[i + 1]? with
      | none => unfold hnxJ at h; rw [hn] at h; exact absurd hu h
      | some y =>
        unfold hnxJ at h
        rw [hn] at h
        have hy : y.1 ≤ u := by simpa using h
        have hl := (List.getElem?_eq_some_iff.1 hn).1
        exact last_le hu d (i + 1) y (by omega) hn hy
/-- As values: some tick of the window at which the function is not 0. -/
theorem hit_val {s t : Int} {J : List Jp} (hs : 1 ≤ s) (hm : mayJ J = true) : Hit s J J.length t ↔ ∃ u, t ≤ u ∧ u < t + s ∧ u < 1125899906842624 ∧ jv J u ≠ 0 := by
  constructor
  · rintro ⟨i, j, hi, hj, h0, h1, h2⟩
    have h3 := hnxJ_in hm (k := i) (x := j.1) (y := j.2) hj
    refine ⟨max t j.1, by omega, by omega, by omega, ?_⟩
    rw [← jv_at hm hj (u := max t j.1) (by omega) (by omega)]
    exact h0
  · rintro ⟨u, h1, h2, h3, h4⟩
    obtain ⟨j, hj, hju⟩ : ∃ j ∈ J, j.1 ≤ u := by
      refine Classical.byContradiction fun hn => h4 (jv_low fun j hj => ?_)
      exact Int.not_le.1 fun h => hn ⟨j, hj, h⟩
    obtain ⟨i, hi⟩ := List.getElem?_of_mem hj
    obtain ⟨i', j', q1, q2, q3⟩ := last_le h3 _ i j rfl hi hju
    exact ⟨i', j', (List.getElem?_eq_some_iff.1 q1).1, q1, by rw [jv_at hm q1 q2 q3]; exact h4, by omega, by omega⟩
theorem ofL_val {s hp r f t : Int} {J : List Jp} (hs : 1 ≤ s) (hh : 1 ≤ hp) (hr : r ≤ 1125899906842624) (hm : mayJ J = true) : t ∈ ofL s hp r J f ↔ Mul hp t ∧ f ≤ t ∧ t < r ∧ ∃ u, t ≤ u ∧ u < t + s ∧ u < 1125899906842624 ∧ jv J u ≠ 0 := by
  rw [mem_ofL hh hr hm, hit_val hs hm]
theorem jv_lowF (J : List Jp) {T t : Int} (ht : t < T) : jv (J.filter fun j => decide (j.1 < T)) t = jv J t := by
  induction J with
  | nil => rfl
  | cons j J ih =>
    rw [List.filter_cons]
    by_cases h : j.1 < T
    · rw [if_pos (by simpa using h)]
      show (if j.1 ≤ t then j.2 else 0) + _ = (if j.1 ≤ t then j.2 else 0) + _
      rw [ih]
    · rw [if_neg (by simpa using h), ih]
      show _ = (if j.1 ≤ t then j.2 else 0) + _
      rw [if_neg (by omega)]
      omega
/-- What functions are ahead of a tick is told by their values there. -/
theorem low_eq {J K : List Jp} {T : Int} (hJ : Canon J) (hK : Canon K) (h : ∀ t, t < T → jv J t = jv K t) : (J.filter fun j => decide (j.1 < T)) = K.filter fun j => decide (j.1 < T) := by
  refine canon_eq T _ _ ⟨hJ.1.sublist List.filter_sublist, fun j hj => hJ.2 j (List.mem_filter.1 hj).1⟩ ⟨hK.1.sublist List.filter_sublist, fun j hj => hK.2 j (List.mem_filter.1 hj).1⟩ (fun j hj => by simpa using (List.mem_filter.1 hj).2) (fun j hj => by simpa using (List.mem_filter.1 hj).2) (fun t ht => ?_)
  rw [jv_lowF J ht, jv_lowF K ht, h t ht]
theorem cpS_low (J : List Jp) {a b T : Int} (hb : b ≤ T) : cpS J a b = cpS (J.filter fun j => decide (j.1 < T)) a b := by
  unfold cpS
  rw [List.filter_filter]
  congr 2
  refine List.filter_congr fun j _ => ?_
  by_cases h1 : a < j.1 <;> by_cases h2 : j.1 < b <;> simp [h1, h2]
  omega
theorem copN_low {J K : List Jp} {a b T : Int} (hJ : mayJ J = true) (hK : mayJ K = true) (ha : a < T) (hb : b ≤ T) (h : ∀ t, t < T → jv J t = jv K t) : copN J a b = copN K a b := by
  unfold copN
  rw [atV_of hJ, atV_of hK, h a ha, cpS_low J hb, cpS_low K hb, low_eq (mayJ_canon hJ) (mayJ_canon hK) h]
theorem hend_in {s t T : Int} (h : hend s t ≤ T) {u : Int} (h1 : u < t + s) (h2 : u < 1125899906842624) : u < T := by
  unfold hend at h
  split at h <;> omega
end Go.Proofs.YtljkneajdndgjaaGreat
set_option linter.unusedVariables false
set_option linter.unusedSimpArgs false
namespace Go.Proofs.YtljkneajdndgjaaGreat
open Go.RowKit
theorem mayJ_jmps {l : List Ed} (hm : mayE l = true) (r : List Vl) : mayJ (jmps l r) = true := by
  by_cases h : jmps l r = []
  · rw [h]; rfl
  · have h1 := (mem_rows (mayE_rise hm).1 r).2 h
    refine (mayE_iff.1 hm).2.2 (r, jmps l r) ?_
    rw [grp_eq (mayE_rise hm)]
    exact List.mem_map.2 ⟨r, h1, rfl⟩
theorem ahead_low {l m : List Ed} {T : Int} (h1 : mpE (ahOp T) l = 0) (h2 : mpE (ahOp T) m = 0) (he : mpR (ahOp T) l = mpR (ahOp T) m) (hT : T ≤ 1125899906842624) (r : List Vl) (u : Int) (hu : u < T) : jv (jmps l r) u = jv (jmps m r) u := by
  have n1 : (ahOp T []).1 = 0 := by rw [ahOp_nil]
  have n2 : (ahOp T []).2 = [] := by rw [ahOp_nil]
  have key : ∀ {l : List Ed}, mpE (ahOp T) l = 0 → jv (jmps (mpR (ahOp T) l) r) u = jv (jmps l r) u := by
    intro l h
    obtain ⟨a, b, c⟩ := mp_zero h
    have hv := (mayE_rise a).1
    have e0 := op_rows n1 hv b r
    have hj := mayJ_jmps a r
    rw [c, jmps_each n2 hv]
    show jv (ahR (jmps l r) T) u = _
    unfold ahR
    rw [if_pos (show ahE (jmps l r) T = 0 from e0), ahL_val hj T u (by omega)]
    unfold ahV
    rw [if_pos hu]
  rw [← key h1, ← key h2, he]
theorem hrows_rows {s hp f R t : Int} {l : List Ed} (hm : mayE l = true) : hrows s hp f R (grp l) t = ((rowsL l).filter fun r => decide (t ∈ ofL s hp R (jmps l r) f)).map fun r => (r, copN (jmps l r) t (hend s t)) := by
  unfold hrows
  rw [grp_eq (mayE_rise hm)]
  unfold byRows
  rw [List.filter_map, List.map_map]
  rfl
theorem ofL_row {s hp f R t : Int} {l : List Ed} (hm : mayE l = true) {r : List Vl} (h : t ∈ ofL s hp R (jmps l r) f) : r ∈ rowsL l := by
  rw [mem_rows (mayE_rise hm).1]
  intro e
  rw [e] at h
  simp [ofL, ofSt] at h
section
variable {s hp f R T : Int} {l m : List Ed}
end
end Go.Proofs.YtljkneajdndgjaaGreat
set_option linter.unusedVariables false
set_option linter.unusedSimpArgs false
namespace Go.Proofs.YtljkneajdndgjaaGreat
open Go.RowKit
theorem hjv_stay {f : List Jp} {p : Int} (h : ∀ j ∈ f, j.1 ≠ p) : jv f p = jv f (p - 1) := by
  induction f with
  | nil => rfl
  | cons a r ih =>
    rw [jv, jv, ih (fun j hj => h j (List.mem_cons_of_mem _ hj))]
    have := h a (by simp)
    congr 1
    by_cases h1 : a.1 ≤ p
    · rw [if_pos h1, if_pos (by omega)]
    · rw [if_neg h1, if_neg (by omega)]
theorem hleF_iff (f : List Jp) : ∀ (g : List Jp) (m : Int), 0 ≤ leF f m g ↔ 0 ≤ m ∧ ∀ j ∈ g, 0 ≤ jv f j.1
  | [], m => by simp [leF]
  | a :: g, m => by
    have ih := hleF_iff f g (min m (jv f a.1))
    have e : leF f m (a :: g) = leF f (min m (jv f a.1)) g := by simp [leF]
    rw [e, ih]
    constructor
    · rintro ⟨h1, h2⟩
      refine ⟨by omega, fun j hj => ?_⟩
      rcases List.mem_cons.1 hj with rfl | hj
      · omega
      · exact h2 j hj
    · rintro ⟨h1, h2⟩
      exact ⟨by have := h2 a (by simp); omega, fun j hj => h2 j (List.mem_cons_of_mem _ hj)⟩
/-- Nowhere below none. -/
theorem hle_iff {f : List Jp} (h : mayJ f = true) : 0 ≤ leV f ↔ ∀ p, -1 ≤ p → 0 ≤ jv f p := by
  unfold leV
  rw [if_pos h, hleF_iff]
  constructor
  · rintro ⟨h1, h2⟩
    have key : ∀ n : Nat, 0 ≤ jv f ((n : Int) - 1) := by
      intro n
      induction n with
      | zero => exact h1
      | succ n ih =>
        by_cases hj : ∃ j ∈ f, j.1 = ((n + 1 : Nat) : Int) - 1
        · obtain ⟨j, hj, e⟩ := hj
          rw [← e]; exact h2 j hj
        · rw [hjv_stay (fun j hj' e => hj ⟨j, hj', e⟩)]
          have : ((n + 1 : Nat) : Int) - 1 - 1 = (n : Int) - 1 := by omega
          rw [this]; exact ih
    intro p hp
    have := key (p + 1).toNat
    rwa [show (((p + 1).toNat : Nat) : Int) - 1 = p by omega] at this
  · intro k
    exact ⟨k _ (Int.le_refl _), fun j hj => k _ (mayJ_at h j hj).1⟩
theorem hle_re {f : List Jp} {t : Int} (h0 : 0 ≤ t) (ht : t < 1125899906842624) (hf : reE f t = 0) (hl : 0 ≤ leV f) : 0 ≤ leV (reR f t) := by
  obtain ⟨hfm, hF⟩ := reE_zero.1 hf
  have hFm : mayJ (reR f t) = true := by unfold reR; rw [if_pos hf]; exact hF
  rw [hle_iff hFm]
  rw [hle_iff hfm] at hl
  intro p hp
  rw [← atV_of hFm]
  by_cases hpt : p < t
  · rw [re_left hf hpt hp ht, atV_of hfm]; exact hl _ (by omega)
  · rw [re_right hf (by omega) h0 ht, atV_of hfm]; exact hl p hp
theorem tab_iff {l : List Ed} (hm : mayE l = true) : tabE l = true ↔ ∀ r, 0 ≤ leV (jmps l r) := by
  unfold tabE
  rw [hm, Bool.true_and, List.all_eq_true]
  rw [grp_eq (mayE_rise hm)]
  constructor
  · intro h r
    by_cases hr : r ∈ rowsL l
    · have := h (r, jmps l r) (List.mem_map.2 ⟨r, hr, rfl⟩)
      simpa using this
    · rw [mem_rows (mayE_rise hm).1, Classical.not_not] at hr
      rw [hr]
      decide
  · intro h g hg
    obtain ⟨r, -, rfl⟩ := List.mem_map.1 hg
    simpa using h r
/-- What is there from a tick on. -/
theorem rest_high {l : List Ed} {T : Int} (h0 : 0 ≤ T) (hT : T < 1125899906842624) (h : mpE (reOp T) l = 0) : mayE (mpR (reOp T) l) = true ∧ ((tabE l = true → tabE (mpR (reOp T) l) = true) ∧ ∀ r u, T ≤ u → jv (jmps (mpR (reOp T) l) r) u = jv (jmps l r) u) := by
  have n1 : (reOp T []).1 = 0 := by rw [reOp_nil]
  have n2 : (reOp T []).2 = [] := by rw [reOp_nil]
  obtain ⟨a, b, c⟩ := mp_zero h
  have hv := (mayE_rise a).1
  have e0 : ∀ r, reE (jmps l r) T = 0 := fun r => op_rows n1 hv b r
  have hFm : ∀ r, mayJ (reR (jmps l r) T) = true := fun r => by unfold reR; rw [if_pos (e0 r)]; exact (reE_zero.1 (e0 r)).2
  have hj : ∀ r, jmps (mpR (reOp T) l) r = reR (jmps l r) T := fun r => by rw [c, jmps_each n2 hv]; rfl
  have hlen : (evL (reOp T) (byRows l)).length ≤ 4096 := by
    unfold mpE at h
    rw [if_pos a] at h
    have := (each_zero h).2.1
    rwa [grp_eq (mayE_rise a)] at this
  have hm : mayE (mpR (reOp T) l) = true := by rw [c]; exact may_each n2 hv hlen (fun r => hFm r)
  refine ⟨hm, fun ht => ?_, fun r u hu => ?_⟩
  · rw [tab_iff hm]
    rw [tab_iff a] at ht
    intro r
    rw [hj]
    exact hle_re h0 hT (e0 r) (ht r)
  · rw [hj, ← atV_of (hFm r), re_right (e0 r) hu h0 hT, atV_of (mayJ_jmps a r)]
theorem jv_highF (J : List Jp) {T t : Int} (ht : T ≤ t) : jv (J.filter fun j => decide (T < j.1)) t = jv J t - jv J T := by
  induction J with
  | nil => rfl
  | cons j J ih =>
    rw [List.filter_cons]
    have e : ∀ u, jv (j :: J) u = (if j.1 ≤ u then j.2 else 0) + jv J u := fun u => rfl
    rw [e t, e T]
    by_cases h : T < j.1
    · rw [if_pos (by simpa using h), if_neg (show ¬ j.1 ≤ T by omega)]
      show (if j.1 ≤ t then j.2 else 0) + _ = _
      rw [ih]
      omega
    · rw [if_neg (by simpa using h), ih, if_pos (show j.1 ≤ T by omega), if_pos (show j.1 ≤ t by omega)]
      omega
theorem high_eq {J K : List Jp} {T : Int} (hJ : mayJ J = true) (hK : mayJ K = true) (h : ∀ t, T ≤ t → jv J t = jv K t) : (J.filter fun j => decide (T < j.1)) = K.filter fun j => decide (T < j.1) := by
  have cJ := mayJ_canon hJ
  have cK := mayJ_canon hK
  refine canon_eq 1125899906842624 _ _ ⟨cJ.1.sublist List.filter_sublist, fun j hj => cJ.2 j (List.mem_filter.1 hj).1⟩ ⟨cK.1.sublist List.filter_sublist, fun j hj => cK.2 j (List.mem_filter.1 hj).1⟩ (fun j hj => (mayJ_at hJ j (List.mem_filter.1 hj).1).2) (fun j hj => (mayJ_at hK j (List.mem_filter.1 hj).1).2) (fun t _ => ?_)
  by_cases ht : T ≤ t
  · rw [jv_highF J ht, jv_highF K ht, h t ht, h T (Int.le_refl _)]
  · rw [jv_low (fun j hj => by have := (List.mem_filter.1 hj).2; simp at this; omega), jv_low (fun j hj => by have := (List.mem_filter.1 hj).2; simp at this; omega)]
theorem cpS_high (J : List Jp) {a b T : Int} (ha : T ≤ a) : cpS J a b = cpS (J.filter fun j => decide (T < j.1)) a b := by
  unfold cpS
  rw [List.filter_filter]
  congr 2
  refine List.filter_congr fun j _ => ?_
  by_cases h1 : a < j.1 <;> by_cases h2 : j.1 < b <;> simp [h1, h2]
  omega
theorem copN_high {J K : List Jp} {a b T : Int} (hJ : mayJ J = true) (hK : mayJ K = true) (ha : T ≤ a) (h : ∀ t, T ≤ t → jv J t = jv K t) : copN J a b = copN K a b := by
  unfold copN
  rw [atV_of hJ, atV_of hK, h a ha, cpS_high J ha, cpS_high K ha, high_eq hJ hK h]
section
variable {s hp R T : Int} {l m : List Ed}
theorem ofL_high (hs : 1 ≤ s) (hh : 1 ≤ hp) (hR : R ≤ 1125899906842624) {J K : List Jp} (hJ : mayJ J = true) (hK : mayJ K = true) (h : ∀ u, T ≤ u → jv J u = jv K u) (t : Int) : t ∈ ofL s hp R J T ↔ t ∈ ofL s hp R K T := by
  rw [ofL_val hs hh hR hJ, ofL_val hs hh hR hK]
  constructor <;> rintro ⟨a, b, c, u, h1, h2, h3, h4⟩
  · exact ⟨a, b, c, u, h1, h2, h3, by rw [← h u (by omega)]; exact h4⟩
  · exact ⟨a, b, c, u, h1, h2, h3, by rw [h u (by omega)]; exact h4⟩
theorem hrows_high (hs : 1 ≤ s) (hh : 1 ≤ hp) (hR : R ≤ 1125899906842624) (hl : mayE l = true) (hm : mayE m = true) (h : ∀ r u, T ≤ u → jv (jmps l r) u = jv (jmps m r) u) (t : Int) : hrows s hp T R (grp l) t = hrows s hp T R (grp m) t := by
  rw [hrows_rows hl, hrows_rows hm]
  have hmem : ∀ r, t ∈ ofL s hp R (jmps l r) T ↔ t ∈ ofL s hp R (jmps m r) T := fun r => ofL_high hs hh hR (mayJ_jmps hl r) (mayJ_jmps hm r) (h r) t
  have e : ((rowsL l).filter fun r => decide (t ∈ ofL s hp R (jmps l r) T)) = (rowsL m).filter fun r => decide (t ∈ ofL s hp R (jmps m r) T) := by
    refine asc_unique rlt_irr rlt_asym _ _ ((rowsL_ok (mayE_rise hl).1).1.sublist List.filter_sublist) ((rowsL_ok (mayE_rise hm).1).1.sublist List.filter_sublist) fun r => ?_
    simp only [List.mem_filter, decide_eq_true_eq]
    exact ⟨fun ⟨_, b⟩ => ⟨ofL_row hm ((hmem r).1 b), (hmem r).1 b⟩, fun ⟨_, b⟩ => ⟨ofL_row hl ((hmem r).2 b), (hmem r).2 b⟩⟩
  rw [e]
  refine List.map_congr_left fun r hr => ?_
  simp only [List.mem_filter, decide_eq_true_eq] at hr
  have h1 := (ofL_val hs hh hR (mayJ_jmps hm r)).1 hr.2
  rw [copN_high (mayJ_jmps hl r) (mayJ_jmps hm r) h1.2.1 (h r)]
theorem hkeys_high (hs : 1 ≤ s) (hh : 1 ≤ hp) (hR : R ≤ 1125899906842624) (hl : mayE l = true) (hm : mayE m = true) (h : ∀ r u, T ≤ u → jv (jmps l r) u = jv (jmps m r) u) : hkeys s hp T R (grp l) = hkeys s hp T R (grp m) := by
  refine asc_unique (R := (· < · : Int → Int → Prop)) (fun a h => by omega) (fun a b h1 h2 => by omega) _ _ (hkeys_asc s hp T R (grp l)) (hkeys_asc s hp T R (grp m)) fun t => ?_
  rw [← hrows_none, ← hrows_none, hrows_high hs hh hR hl hm h]
/-- The windows from a tick on. -/
theorem hpE_high (hl : mayE l = true) (hm : mayE m = true) (hlt : tabE l = true) (hmt : tabE m = true) (h : ∀ r u, T ≤ u → jv (jmps l r) u = jv (jmps m r) u) : hpE l s hp T R = hpE m s hp T R ∧ hpL l s hp T R = hpL m s hp T R := by
  by_cases c1 : hlen s = true ∧ hlen hp = true
  case neg =>
    have e1 : ∀ l : List Ed, hpE l s hp T R = 2 := fun l => by unfold hpE; rw [if_neg (fun k => c1 ⟨k.1, k.2.1⟩)]
    unfold hpL
    rw [e1, e1]
    exact ⟨rfl, rfl⟩
  by_cases c2 : htick T = true ∧ htick R = true
  case neg =>
    have e1 : hpE l s hp T R = 13 := by unfold hpE; rw [if_pos ⟨c1.1, c1.2, hl⟩, if_pos hlt, if_neg c2]
    have e2 : hpE m s hp T R = 13 := by unfold hpE; rw [if_pos ⟨c1.1, c1.2, hm⟩, if_pos hmt, if_neg c2]
    unfold hpL
    rw [e1, e2]
    exact ⟨rfl, rfl⟩
  have hs := (hlen_iff.1 c1.1).1
  have hh := (hlen_iff.1 c1.2).1
  have hR := (htick_iff.1 c2.2).2
  have hk := hkeys_high hs hh hR hl hm h
  have e1 : hpE l s hp T R = hcE s hp T R (grp l) := by unfold hpE; rw [if_pos ⟨c1.1, c1.2, hl⟩, if_pos hlt, if_pos c2]
  have e2 : hpE m s hp T R = hcE s hp T R (grp m) := by unfold hpE; rw [if_pos ⟨c1.1, c1.2, hm⟩, if_pos hmt, if_pos c2]
  have e3 : hcE s hp T R (grp l) = hcE s hp T R (grp m) := by unfold hcE; rw [hk]
  refine ⟨by rw [e1, e2, e3], ?_⟩
  unfold hpL
  rw [e1, e2, e3]
  split
  · unfold hpT
    rw [hk]
    refine List.map_congr_left fun t _ => ?_
    rw [hrows_high hs hh hR hl hm h t]
  · rfl
end
end Go.Proofs.YtljkneajdndgjaaGreat
