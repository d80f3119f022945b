/-
  A helper of ours: no claim of its own. Layer 6 (row): rows as lists of values, their order, their cells. No program in it.
-/
import Derived.Test.YtkfdkjjocdbolaaValS
set_option linter.unusedVariables false
set_option linter.unusedSimpArgs false
namespace Go.Proofs.Ytkfdkjjocdbolaa
open Go.RowKit
/-- A value's three cells. -/
def vc (a : Vl) : List Value := [.int .i64 a.1, .int .i64 a.2.1, .string a.2.2]
/-- A row's cells. -/
def rc (l : List Vl) : List Value := l.flatMap vc
theorem rc_length (l : List Vl) : (rc l).length = l.length * 3 := by
  induction l with
  | nil => rfl
  | cons p r ih => simp only [rc, vc, List.flatMap_cons, List.length_append, List.length_cons, List.length_nil] at ih ⊢; omega
theorem rc_append (l m : List Vl) : rc (l ++ m) = rc l ++ rc m := by simp [rc]
theorem rc_drop (l : List Vl) : ∀ n, (rc l).drop (n * 3) = rc (l.drop n) := by
  induction l with
  | nil => intro n; simp [rc]
  | cons p r ih =>
    intro n
    rcases n with _ | n
    · simp
    · rw [show (n + 1) * 3 = n * 3 + 1 + 1 + 1 by omega]
      simpa [rc, vc] using ih n
theorem rc_take (l : List Vl) : ∀ n, (rc l).take (n * 3) = rc (l.take n) := by
  induction l with
  | nil => intro n; simp [rc]
  | cons p r ih =>
    intro n
    rcases n with _ | n
    · simp [rc]
    · rw [show (n + 1) * 3 = n * 3 + 1 + 1 + 1 by omega]
      simpa [rc, vc] using ih n
theorem rc_one (l : List Vl) : ∀ u ∈ rc l, u.oneCell' = true := by
  intro u hu
  simp only [rc, List.mem_flatMap, vc] at hu
  obtain ⟨a, _, hu⟩ := hu
  simp at hu
  rcases hu with rfl | rfl | rfl <;> rfl
theorem rc_get : ∀ (l : List Vl) (i : Nat) (a : Vl), l[i]? = some a → ∀ j v, (vc a)[j]? = some v → (rc l)[i * 3 + j]? = some v
  | q :: r, 0, a, h, j, v, hv => by
    simp at h; subst h
    have hj : j < (vc q).length := (List.getElem?_eq_some_iff.1 hv).1
    simp only [rc, List.flatMap_cons]
    rw [List.getElem?_append_left (by omega), show 0 * 3 + j = j by omega]; exact hv
  | q :: r, i + 1, a, h, j, v, hv => by
    have := rc_get r i a (by simpa using h) j v hv
    rw [show (i + 1) * 3 + j = i * 3 + j + 1 + 1 + 1 by omega]
    simpa [rc, vc] using this
/-- Whole numbers as cells. -/
def ic (l : List Int) : List Value := l.map fun x => .int .i64 x
abbrev inI (n : Int) : Prop := -9223372036854775808 ≤ n ∧ n ≤ 9223372036854775807
/-- A row, where it lies. -/
abbrev Rw (w : World) (S : List Nat) (v : Value) (l : List Vl) : Prop := Sl w S 3 v l.length (rc l)
abbrev OwnR (w : World) (base : Nat) (v : Value) (l : List Vl) : Prop := w.ownsRow base 54 3 v l.length (rc l)
/-- Is it a row? -/
def mayR (l : List Vl) : Bool := decide (l.length ≤ 8) && l.all may
theorem mayR_iff {l : List Vl} : mayR l = true ↔ l.length ≤ 8 ∧ ∀ a ∈ l, may a = true := by
  unfold mayR; rw [Bool.and_eq_true, decide_eq_true_iff, List.all_eq_true]
/-- The first values that differ, else the lengths. -/
def cmpT : List Vl → List Vl → Int
  | [], [] => 0
  | [], _ :: _ => -1
  | _ :: _, [] => 1
  | x :: a, y :: b => if x = y then cmpT a b else cmpV x y
def cmpR (a b : List Vl) : Int := if mayR a && mayR b then cmpT a b else 0
theorem cmpT_swap : ∀ a b : List Vl, cmpT b a = - cmpT a b
  | [], [] => rfl
  | [], _ :: _ => rfl
  | _ :: _, [] => rfl
  | x :: a, y :: b => by
    simp only [cmpT]
    by_cases h : x = y
    · subst h; rw [if_pos rfl, if_pos rfl]; exact cmpT_swap a b
    · rw [if_neg h, if_neg (Ne.symm h)]; exact cmpV_swap x y
theorem cmpR_swap (a b : List Vl) : cmpR b a = - cmpR a b := by
  unfold cmpR
  rw [Bool.and_comm]
  split
  · exact cmpT_swap a b
  · rfl
theorem cmpT_range : ∀ a b : List Vl, cmpT a b = -1 ∨ cmpT a b = 0 ∨ cmpT a b = 1
  | [], [] => .inr (.inl rfl)
  | [], _ :: _ => .inl rfl
  | _ :: _, [] => .inr (.inr rfl)
  | x :: a, y :: b => by
    simp only [cmpT]
    split
    · exact cmpT_range a b
    · exact cmpV_range x y
theorem cmpT_zero : ∀ a b : List Vl, (∀ x ∈ a, may x = true) → (∀ x ∈ b, may x = true) → (cmpT a b = 0 ↔ a = b)
  | [], [], _, _ => by simp [cmpT]
  | [], _ :: _, _, _ => by simp [cmpT]
  | _ :: _, [], _, _ => by simp [cmpT]
  | x :: a, y :: b, ha, hb => by
    simp only [cmpT]
    by_cases h : x = y
    · subst h; rw [if_pos rfl, cmpT_zero a b (fun z hz => ha z (by simp [hz])) (fun z hz => hb z (by simp [hz]))]; simp
    · rw [if_neg h, cmpV_zero (ha x (by simp)) (hb y (by simp))]; simp [h]
theorem cmpT_trans : ∀ a b c : List Vl, (∀ x ∈ a, may x = true) → (∀ x ∈ b, may x = true) → (∀ x ∈ c, may x = true) → cmpT a b ≤ 0 → cmpT b c ≤ 0 → cmpT a c = min (cmpT a b) (cmpT b c)
  | [], [], c, _, _, _, _, h => by rw [show cmpT [] [] = 0 from rfl]; omega
  | [], y :: b, [], _, _, _, _, h => by simp [cmpT] at h
  | [], y :: b, z :: c, _, _, _, _, h => by
    have e1 : cmpT [] (y :: b) = -1 := rfl
    have e2 : cmpT [] (z :: c) = -1 := rfl
    rw [e1, e2]; rcases cmpT_range (y :: b) (z :: c) with e | e | e <;> omega
  | x :: a, [], c, _, _, _, h, _ => by simp [cmpT] at h
  | x :: a, y :: b, [], _, _, _, _, h => by simp [cmpT] at h
  | x :: a, y :: b, z :: c, ha, hb, hc, h, k => by
    have hx := ha x (by simp)
    have hy := hb y (by simp)
    have hz := hc z (by simp)
    simp only [cmpT] at h k ⊢
    by_cases h1 : x = y
    · subst h1
      rw [if_pos rfl] at h ⊢
      by_cases k1 : x = z
      · subst k1
        rw [if_pos rfl] at k ⊢
        rw [if_pos rfl]
        exact cmpT_trans a b c (fun z hz => ha z (by simp [hz])) (fun z hz => hb z (by simp [hz])) (fun z hz => hc z (by simp [hz])) h k
      · rw [if_neg k1] at k ⊢
        rw [if_neg k1]
        have h0 := mt (cmpV_zero hx hz).1 k1
        rcases cmpV_range x z with e | e | e <;> rcases cmpT_range a b with f | f | f <;> omega
    · rw [if_neg h1] at h ⊢
      have h0 := mt (cmpV_zero hx hy).1 h1
      by_cases k1 : y = z
      · subst k1
        rw [if_neg h1]
        rw [if_pos rfl] at k ⊢
        rcases cmpV_range x y with e | e | e <;> rcases cmpT_range b c with f | f | f <;> omega
      · rw [if_neg k1] at k ⊢
        have k0 := mt (cmpV_zero hy hz).1 k1
        have ht := cmpV_trans hx hy hz h k
        have hxz : x ≠ z := by
          rintro rfl
          have h2 := (cmpV_zero hx hx).2 rfl
          rcases cmpV_range x y with e | e | e <;> rcases cmpV_range y x with f | f | f <;> omega
        rw [if_neg hxz]
        exact ht
end Go.Proofs.Ytkfdkjjocdbolaa
