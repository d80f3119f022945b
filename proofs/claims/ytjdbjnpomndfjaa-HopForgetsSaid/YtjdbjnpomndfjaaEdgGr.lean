/-
  A helper of ours: no claim of its own. Layer 10 (edge): the rows that are told, each with its function, by the code: it ranges over a function itself, and hands copies over.
-/
import Derived.Test.YtjdbjnpomndfjaaHopS
import Derived.Test.YtjdbjnpomndfjaaEdgF
import Derived.Test.YtjdbjnpomndfjaaRx
import Derived.Test.YtjdbjnpomndfjaaEdgO
set_option linter.unusedVariables false
set_option linter.unusedSimpArgs false
namespace Go.Proofs.Ytjdbjnpomndfjaa
open Go.RowKit
theorem hT_mem {h a e t : Int} (hh : 1 ≤ h) : t ∈ hT h a e ↔ ∃ i : Nat, t = a + (i : Int) * h ∧ t < e := by
  unfold hT
  rw [List.mem_map]
  constructor
  · rintro ⟨i, hi, rfl⟩
    exact ⟨i, rfl, (hN_lt hh i).1 (List.mem_range.1 hi)⟩
  · rintro ⟨i, rfl, h2⟩
    exact ⟨i, List.mem_range.2 ((hN_lt hh i).2 h2), rfl⟩
/-- Multiples of a hop. -/
def Mul (h t : Int) : Prop := ∃ n : Nat, t = (n : Int) * h
theorem hcnt_le {h x : Int} (hh : 1 ≤ h) (n : Nat) : hcnt h x * h ≤ (n : Int) * h ↔ x ≤ (n : Int) * h := by
  unfold hcnt
  split
  · have h0 : 0 ≤ (n : Int) * h := Int.mul_nonneg (by omega) (by omega)
    omega
  · have e1 : (x - 1) / h < n ↔ x - 1 < (n : Int) * h := Int.ediv_lt_iff_lt_mul (by omega)
    constructor
    · intro h1
      have h2 : (x - 1) / h + 1 ≤ n := by
        refine Classical.byContradiction fun hn => ?_
        have h3 : (n : Int) + 1 ≤ (x - 1) / h + 1 := by omega
        have h4 := Int.mul_le_mul_of_nonneg_right h3 (show (0 : Int) ≤ h by omega)
        rw [Int.add_mul] at h4
        omega
      have := e1.1 (by omega)
      omega
    · intro h1
      have h2 := e1.2 (by omega)
      exact Int.mul_le_mul_of_nonneg_right (by omega) (by omega)
theorem hcnt_nat {h x : Int} (hh : 1 ≤ h) : ∃ n : Nat, hcnt h x = n := by
  unfold hcnt
  split
  · exact ⟨0, rfl⟩
  · have e0 : 0 ≤ (x - 1) / h := Int.ediv_nonneg (by omega) (by omega)
    exact ⟨((x - 1) / h + 1).toNat, by omega⟩
theorem hbeg_mem {h x e t : Int} (hh : 1 ≤ h) (he : e ≤ 1125899906842624) : t ∈ hT h (hbeg h x) e ↔ Mul h t ∧ x ≤ t ∧ t < e := by
  rw [hT_mem hh]
  obtain ⟨m, hm⟩ := hcnt_nat (x := x) hh
  have hc := hcnt_le (x := x) hh
  rw [hm] at hc
  constructor
  · rintro ⟨i, ht, hte⟩
    have h0 : 0 ≤ (i : Int) * h := Int.mul_nonneg (by omega) (by omega)
    unfold hbeg at ht
    rw [hm] at ht
    split at ht
    · have h1 := (hc m).1 (Int.le_refl _)
      exact ⟨⟨m + i, by rw [ht]; push_cast; rw [Int.add_mul]⟩, by omega, hte⟩
    · omega
  · rintro ⟨⟨n, rfl⟩, hx, hte⟩
    have h1 := (hc n).2 hx
    have hmn : m ≤ n := by
      refine Classical.byContradiction fun hn => ?_
      have h3 : (n : Int) + 1 ≤ m := by omega
      have h4 := Int.mul_le_mul_of_nonneg_right h3 (show (0 : Int) ≤ h by omega)
      rw [Int.add_mul] at h4
      omega
    unfold hbeg
    rw [hm, if_pos (by omega)]
    refine ⟨n - m, ?_, hte⟩
    rw [Int.ofNat_sub hmn, Int.sub_mul]
    omega
theorem ofU_mem {s hp r F x t : Int} {J : List Jp} {k : Nat} (hh : 1 ≤ hp) (hr : r ≤ 1125899906842624) : t ∈ ofU s hp r F J k x ↔ Mul hp t ∧ F ≤ t ∧ x < t + s ∧ t < r ∧ t < hnxJ J k := by
  unfold ofU hA
  rw [hbeg_mem hh (hZ_le hr)]
  unfold hZ
  constructor
  · rintro ⟨h1, h2, h3⟩
    refine ⟨h1, ?_⟩
    split at h2 <;> split at h3 <;> omega
  · rintro ⟨h1, h2, h3, h4, h5⟩
    refine ⟨h1, ?_, ?_⟩
    · split <;> omega
    · split <;> omega
/-- Some time at which the row is there, among the first k, shares a tick with a window. -/
def Hit (s : Int) (J : List Jp) (k : Nat) (t : Int) : Prop := ∃ i j, i < k ∧ J[i]? = some j ∧ js (J.take (i + 1)) ≠ 0 ∧ j.1 < t + s ∧ t < hnxJ J i
theorem hnxJ_mono {J : List Jp} (hm : mayJ J = true) {i k : Nat} {j : Jp} (hik : i < k) (hk : J[k]? = some j) : hnxJ J i ≤ j.1 := by
  have hkl := (List.getElem?_eq_some_iff.1 hk).1
  obtain ⟨y, hy⟩ : ∃ y, J[i + 1]? = some y := ⟨_, List.getElem?_eq_getElem (by omega)⟩
  unfold hnxJ
  rw [hy]
  show y.1 ≤ j.1
  rcases Nat.eq_or_lt_of_le (show i + 1 ≤ k from hik) with h | h
  · subst h; rw [hy] at hk; cases hk; omega
  · have h3 := List.pairwise_iff_getElem.1 (mayJ_iff.1 hm).2.2 (i + 1) k (by omega) hkl h
    rw [(List.getElem?_eq_some_iff.1 hy).2, (List.getElem?_eq_some_iff.1 hk).2] at h3
    omega
theorem mayJ_lt {J : List Jp} (hm : mayJ J = true) {i k : Nat} {x j : Jp} (hi : J[i]? = some x) (hik : i < k) (hk : J[k]? = some j) : x.1 < j.1 := by
  have h3 := List.pairwise_iff_getElem.1 (mayJ_iff.1 hm).2.2 i k (List.getElem?_eq_some_iff.1 hi).1 (List.getElem?_eq_some_iff.1 hk).1 hik
  rw [(List.getElem?_eq_some_iff.1 hi).2, (List.getElem?_eq_some_iff.1 hk).2] at h3
  exact h3
theorem ofSt_mem {s hp r f : Int} {J : List Jp} (hh : 1 ≤ hp) (hr : r ≤ 1125899906842624) (hm : mayJ J = true) : ∀ k, (∀ t, t ∈ (ofSt s hp r J f k).2 ↔ Mul hp t ∧ f ≤ t ∧ t < r ∧ Hit s J k t) ∧ (((ofSt s hp r J f k).1 = f ∨ ∃ z ∈ (ofSt s hp r J f k).2, (ofSt s hp r J f k).1 = z + 1) ∧ f ≤ (ofSt s hp r J f k).1)
  | 0 => ⟨fun t => ⟨fun h => by simp [ofSt] at h, fun ⟨_, _, _, i, j, hi, _⟩ => by omega⟩, .inl rfl, Int.le_refl _⟩
  | k + 1 => by
    obtain ⟨ih1, ih2, ih3⟩ := ofSt_mem (s := s) (f := f) hh hr hm k
    cases hj : J[k]? with
    | none =>
      have e : ofSt s hp r J f (k + 1) = ofSt s hp r J f k := by rw [ofSt, hj]
      rw [e]
      refine ⟨fun t => (ih1 t).trans ⟨fun ⟨a, b, c, i, j, hi, h⟩ => ⟨a, b, c, i, j, by omega, h⟩, fun ⟨a, b, c, i, j, hi, h⟩ => ⟨a, b, c, i, j, ?_, h⟩⟩, ih2, ih3⟩
      rcases Nat.lt_or_ge i k with h2 | h2
      · exact h2
      · obtain rfl : i = k := by omega
        rw [hj] at h; cases h.1
    | some x =>
      by_cases h0 : js (J.take (k + 1)) = 0
      · rw [ofSt_zero hj h0]
        refine ⟨fun t => (ih1 t).trans ⟨fun ⟨a, b, c, i, j, hi, h⟩ => ⟨a, b, c, i, j, by omega, h⟩, fun ⟨a, b, c, i, j, hi, h⟩ => ⟨a, b, c, i, j, ?_, h⟩⟩, ih2, ih3⟩
        rcases Nat.lt_or_ge i k with h2 | h2
        · exact h2
        · obtain rfl : i = k := by omega
          exact absurd h0 h.2.1
      · rw [ofSt_next hj h0]
        obtain ⟨F, hF⟩ : ∃ F, F = (ofSt s hp r J f k).1 := ⟨_, rfl⟩
        obtain ⟨A, hA⟩ : ∃ A, A = (ofSt s hp r J f k).2 := ⟨_, rfl⟩
        rw [← hF] at ih2 ih3
        rw [← hA] at ih1 ih2
        rw [← hF, ← hA]
        obtain ⟨U, hU⟩ : ∃ U, U = ofU s hp r F J k x.1 := ⟨_, rfl⟩
        rw [← hU]
        have hUm : ∀ t, t ∈ U ↔ Mul hp t ∧ F ≤ t ∧ x.1 < t + s ∧ t < r ∧ t < hnxJ J k := fun t => by rw [hU]; exact ofU_mem hh hr
        refine ⟨fun t => ?_, ?_, ?_⟩
        · rw [List.mem_append, ih1, hUm]
          constructor
          · rintro (⟨a, b, c, i, j, hi, h⟩ | ⟨a, b, c, d, e⟩)
            · exact ⟨a, b, c, i, j, by omega, h⟩
            · exact ⟨a, by omega, d, k, x, by omega, hj, h0, c, e⟩
          · rintro ⟨a, b, c, i, j, hi, h1, h2, h3, h4⟩
            rcases Nat.lt_or_ge i k with h5 | h5
            · exact .inl ⟨a, b, c, i, j, h5, h1, h2, h3, h4⟩
            · obtain rfl : i = k := by omega
              rw [hj] at h1
              obtain rfl := Option.some.inj h1
              by_cases hFt : F ≤ t
              · exact .inr ⟨a, hFt, h3, c, h4⟩
              · rcases ih2 with rfl | ⟨z, hz, hFz⟩
                · omega
                · obtain ⟨z1, z2, z3, i', j', hi', q1, q2, q3, q4⟩ := (ih1 z).1 hz
                  have h6 := hnxJ_mono hm hi' hj
                  have h7 := mayJ_lt hm q1 hi' hj
                  exact .inl ⟨a, b, c, i', j', hi', q1, q2, by omega, by omega⟩
        · rcases List.eq_nil_or_concat U with hn | ⟨V, z, hn⟩
          · rw [hn]
            rcases ih2 with h | ⟨z, hz, h⟩
            · exact .inl h
            · exact .inr ⟨z, List.mem_append_left _ hz, h⟩
          · refine .inr ⟨z, List.mem_append_right _ (by rw [hn]; simp), ?_⟩
            rw [hn]; simp
        · rcases List.eq_nil_or_concat U with hn | ⟨V, z, hn⟩
          · rw [hn]; exact ih3
          · obtain ⟨-, h1, -⟩ := (hUm z).1 (by rw [hn]; simp)
            rw [hn]
            simp
            omega
theorem mem_ofL {s hp r f t : Int} {J : List Jp} (hh : 1 ≤ hp) (hr : r ≤ 1125899906842624) (hm : mayJ J = true) : t ∈ ofL s hp r J f ↔ Mul hp t ∧ f ≤ t ∧ t < r ∧ Hit s J J.length t := (ofSt_mem hh hr hm J.length).1 t
theorem jv_at {J : List Jp} (hm : mayJ J = true) {i : Nat} {j : Jp} (hj : J[i]? = some j) {u : Int} (h1 : j.1 ≤ u) (h2 : u < hnxJ J i) : js (J.take (i + 1)) = jv J u := by
  rw [js_here hm hj]
  refine jv_between h1 fun x hx => ?_
  obtain ⟨k, hk⟩ := List.getElem?_of_mem hx
  rcases Nat.lt_trichotomy k i with h | h | h
  · exact .inl (by have := mayJ_lt hm hk h hj; omega)
  · subst h; rw [hj] at hk; cases hk; exact .inl (Int.le_refl _)
  · exact .inr (by have := hnxJ_mono hm h hk; omega)
theorem last_le {J : List Jp} {u : Int} (hu : u < 1125899906842624) : ∀ (d i : Nat) (j : Jp), J.length - i = d → J[i]? = some j → j.1 ≤ u → ∃ i' j', J[i']? = some j' ∧ j'.1 ≤ u ∧ u < hnxJ J i'
  | 0, i, j, hd, hj, _ => by have := (List.getElem?_eq_some_iff.1 hj).1; omega
  | d + 1, i, j, hd, hj, hju => by
    by_cases h : u < hnxJ J i
    · exact ⟨i, j, hj, hju, h⟩
    · cases hn : J[i + 1]? with
      | none => unfold hnxJ at h; rw [hn] at h; exact absurd hu h
      | some y =>
        unfold hnxJ at h
        rw [hn] at h
        have hy : y.1 ≤ u := by simpa using h
        have hl := (List.getElem?_eq_some_iff.1 hn).1
        exact last_le hu d (i + 1) y (by omega) hn hy
/-- As values: some tick of the window at which the function is not 0. -/
theorem hit_val {s t : Int} {J : List Jp} (hs : 1 ≤ s) (hm : mayJ J = true) : Hit s J J.length t ↔ ∃ u, t ≤ u ∧ u < t + s ∧ u < 1125899906842624 ∧ jv J u ≠ 0 := by
  constructor
  · rintro ⟨i, j, hi, hj, h0, h1, h2⟩
    have h3 := hnxJ_in hm (k := i) (x := j.1) (y := j.2) hj
    refine ⟨max t j.1, by omega, by omega, by omega, ?_⟩
    rw [← jv_at hm hj (u := max t j.1) (by omega) (by omega)]
    exact h0
  · rintro ⟨u, h1, h2, h3, h4⟩
    obtain ⟨j, hj, hju⟩ : ∃ j ∈ J, j.1 ≤ u := by
      refine Classical.byContradiction fun hn => h4 (jv_low fun j hj => ?_)
      exact Int.not_le.1 fun h => hn ⟨j, hj, h⟩
    obtain ⟨i, hi⟩ := List.getElem?_of_mem hj
    obtain ⟨i', j', q1, q2, q3⟩ := last_le h3 _ i j rfl hi hju
    exact ⟨i', j', (List.getElem?_eq_some_iff.1 q1).1, q1, by rw [jv_at hm q1 q2 q3]; exact h4, by omega, by omega⟩
theorem ofL_val {s hp r f t : Int} {J : List Jp} (hs : 1 ≤ s) (hh : 1 ≤ hp) (hr : r ≤ 1125899906842624) (hm : mayJ J = true) : t ∈ ofL s hp r J f ↔ Mul hp t ∧ f ≤ t ∧ t < r ∧ ∃ u, t ≤ u ∧ u < t + s ∧ u < 1125899906842624 ∧ jv J u ≠ 0 := by
  rw [mem_ofL hh hr hm, hit_val hs hm]
end Go.Proofs.Ytjdbjnpomndfjaa
set_option linter.unusedVariables false
set_option linter.unusedSimpArgs false
namespace Go.Proofs.Ytjdbjnpomndfjaa
open Go.RowKit
attribute [-go_sem] sliced
attribute [local go_sem] sliced_eq
attribute [local go_sem] GW.cell GW.frozen In.eq_true In.le_true In.ne In.ne' In.ne_add In.ne_add' In.lt_add Upto.le_true Upto.le_add Upto.lt_add Oper.semAt_some wide_depth wide_fn
/-- What comes for a row: the row, and jumps of one's own. -/
def Hgo (x : Gp) (vs : Array Value) (W : World) : Prop := ∃ r f, vs = #[r, f] ∧ (Rw W [] r x.1 ∧ OwnJ W 0 f x.2)
theorem Hgo.stab {B : Nat} (x : Gp) (vs : Array Value) : Stab B (Hgo x vs) := Stab.ex fun r => Stab.ex fun f => (Stab.pure _).and ((Stab.sl _ _ _ _ _).and (Stab.own _ _ _ _ _ _))
theorem Hgo.size {x : Gp} {vs : Array Value} {W : World} (h : Hgo x vs W) : vs.size = 2 := by obtain ⟨r, f, rfl, _⟩ := h; rfl
end Go.Proofs.Ytjdbjnpomndfjaa
set_option linter.unusedVariables false
set_option linter.unusedSimpArgs false
namespace Go.Proofs.Ytjdbjnpomndfjaa
open Go.RowKit
attribute [local go_sem] GW.cell GW.frozen In.eq_true In.le_true In.ne In.ne' In.ne_add In.ne_add' In.lt_add Upto.le_true Upto.le_add Upto.lt_add Oper.semAt_some wide_depth wide_fn
/-- What is told for a row: a copy of it, and its jumps, each in a block of their kind. -/
def Hgg (x : Gp) (vs : Array Value) (W : World) : Prop := ∃ r f, vs = #[r, f] ∧ (OwnR W 0 r x.1 ∧ OwnJ W 0 f x.2)
theorem Hgg.stab {B : Nat} (x : Gp) (vs : Array Value) : Stab B (Hgg x vs) := Stab.ex fun r => Stab.ex fun f => (Stab.pure _).and ((Stab.own _ _ _ _ _ _).and (Stab.own _ _ _ _ _ _))
theorem Hgg.size {x : Gp} {vs : Array Value} {W : World} (h : Hgg x vs W) : vs.size = 2 := by obtain ⟨r, f, rfl, _⟩ := h; rfl
end Go.Proofs.Ytjdbjnpomndfjaa
