/-
  A helper of ours: no claim of its own. Layer 5 (value): the order of numbers, of texts and of values, as plain functions. No program in it.
-/
import Derived.Test.YtljkneajdndgjabGreatRows
import Derived.Test.YtljkneajdndgjabGreatMem
set_option linter.unusedVariables false
set_option linter.unusedSimpArgs false
namespace Go.Proofs.YtljkneajdndgjabGreat
open Go.RowKit
/-- Texts, byte by byte. -/
def cmpL : List UInt8 → List UInt8 → Int
  | [], [] => 0
  | [], _ :: _ => -1
  | _ :: _, [] => 1
  | x :: a, y :: b => if x < y then -1 else if x = y then cmpL a b else 1
theorem u8_tri (x y : UInt8) : x < y ∨ x = y ∨ y < x := by
  rcases Nat.lt_trichotomy x.toNat y.toNat with h | h | h
  · exact .inl h
  · exact .inr (.inl (UInt8.toNat_inj.1 h))
  · exact .inr (.inr h)
theorem u8_asym {x y : UInt8} (h : x < y) : ¬ y < x ∧ x ≠ y := by
  have h' : x.toNat < y.toNat := h
  exact ⟨fun k => by have k' : y.toNat < x.toNat := k; omega, fun e => by subst e; omega⟩
theorem u8_irr (x : UInt8) : ¬ x < x := fun h => (u8_asym h).1 h
theorem u8_trans {x y z : UInt8} (h : x < y) (k : y < z) : x < z := by
  have h' : x.toNat < y.toNat := h
  have k' : y.toNat < z.toNat := k
  show x.toNat < z.toNat
  omega
theorem cmpL_lt {x y : UInt8} (a b : List UInt8) (h : x < y) : cmpL (x :: a) (y :: b) = -1 := by simp only [cmpL]; rw [if_pos h]
theorem cmpL_gt {x y : UInt8} (a b : List UInt8) (h : y < x) : cmpL (x :: a) (y :: b) = 1 := by simp only [cmpL]; rw [if_neg (u8_asym h).1, if_neg (Ne.symm (u8_asym h).2)]
theorem cmpL_eq (x : UInt8) (a b : List UInt8) : cmpL (x :: a) (x :: b) = cmpL a b := by simp only [cmpL, if_neg (u8_irr x), if_true]
theorem cmpL_nil (y : UInt8) (b : List UInt8) : cmpL [] (y :: b) = -1 := rfl
theorem cmpL_nil' (y : UInt8) (b : List UInt8) : cmpL (y :: b) [] = 1 := rfl
theorem cmpL_swap : ∀ a b : List UInt8, cmpL b a = - cmpL a b
  | [], [] => rfl
  | [], _ :: _ => rfl
  | _ :: _, [] => rfl
  | x :: a, y :: b => by
    rcases u8_tri x y with h | h | h
    · rw [cmpL_lt _ _ h, cmpL_gt _ _ h]; rfl
    · subst h; rw [cmpL_eq, cmpL_eq]; exact cmpL_swap a b
    · rw [cmpL_lt _ _ h, cmpL_gt _ _ h]
theorem cmpL_range : ∀ a b : List UInt8, cmpL a b = -1 ∨ cmpL a b = 0 ∨ cmpL a b = 1
  | [], [] => .inr (.inl rfl)
  | [], _ :: _ => .inl rfl
  | _ :: _, [] => .inr (.inr rfl)
  | x :: a, y :: b => by
    rcases u8_tri x y with h | h | h
    · rw [cmpL_lt _ _ h]; simp
    · subst h; rw [cmpL_eq]; exact cmpL_range a b
    · rw [cmpL_gt _ _ h]; simp
theorem cmpL_zero : ∀ a b : List UInt8, cmpL a b = 0 ↔ a = b
  | [], [] => by simp [cmpL]
  | [], _ :: _ => by simp [cmpL]
  | _ :: _, [] => by simp [cmpL]
  | x :: a, y :: b => by
    rcases u8_tri x y with h | h | h
    · rw [cmpL_lt _ _ h]; have := (u8_asym h).2; simp [this]
    · subst h; rw [cmpL_eq, cmpL_zero a b]; simp
    · rw [cmpL_gt _ _ h]; have := Ne.symm (u8_asym h).2; simp [this]
theorem cmpL_trans : ∀ a b c : List UInt8, cmpL a b ≤ 0 → cmpL b c ≤ 0 → cmpL a c = min (cmpL a b) (cmpL b c)
  | [], [], c, _, h => by rw [show cmpL [] [] = 0 from rfl]; omega
  | [], y :: b, [], _, h => by rw [cmpL_nil'] at h; omega
  | [], y :: b, z :: c, _, h => by rw [cmpL_nil, cmpL_nil]; rcases cmpL_range (y :: b) (z :: c) with e | e | e <;> omega
  | x :: a, [], _, h, _ => by rw [cmpL_nil'] at h; omega
  | x :: a, y :: b, [], _, h => by rw [cmpL_nil'] at h; omega
  | x :: a, y :: b, z :: c, h, k => by
    rcases u8_tri x y with h1 | h1 | h1
    · rw [cmpL_lt _ _ h1]
      rcases u8_tri y z with k1 | k1 | k1
      · rw [cmpL_lt _ _ k1, cmpL_lt _ _ (u8_trans h1 k1)]; rfl
      · subst k1
        rw [cmpL_eq] at k ⊢
        rw [cmpL_lt _ _ h1]
        rcases cmpL_range b c with e | e | e <;> omega
      · rw [cmpL_gt _ _ k1] at k; omega
    · subst h1
      rw [cmpL_eq] at h ⊢
      rcases u8_tri x z with k1 | k1 | k1
      · rw [cmpL_lt _ _ k1, cmpL_lt _ _ k1]; rcases cmpL_range a b with e | e | e <;> omega
      · subst k1
        rw [cmpL_eq] at k ⊢
        rw [cmpL_eq]
        exact cmpL_trans a b c h k
      · rw [cmpL_gt _ _ k1] at k; omega
    · rw [cmpL_gt _ _ h1] at h; omega
theorem less_iff : ∀ a b : List UInt8, Op.bytesLess a b = decide (cmpL a b < 0)
  | [], [] => rfl
  | [], _ :: _ => rfl
  | _ :: _, [] => rfl
  | x :: a, y :: b => by
    simp only [Op.bytesLess]
    rcases u8_tri x y with h | h | h
    · rw [cmpL_lt _ _ h]; simp [h]
    · subst h; rw [cmpL_eq, less_iff a b]; simp [u8_irr]
    · rw [cmpL_gt _ _ h]; simp [(u8_asym h).1, Ne.symm (u8_asym h).2]
/-- Numbers. -/
def cmpN (n m : Int) : Int := if n < m then -1 else if m < n then 1 else 0
/-- Is it a value: of kind k, with the number n, and the text s? -/
def mayB (k n : Int) (s : ByteArray) : Bool := decide (k = 1 ∧ s.size = 0) || decide (k = 2 ∧ n = 0 ∧ s.size ≤ 64)
/-- Values: kind, number, text. -/
abbrev Vl := Int × Int × ByteArray
def may (a : Vl) : Bool := mayB a.1 a.2.1 a.2.2
def cmpV (a b : Vl) : Int :=
  if may a && may b then
    (if a.1 = 1 then (if b.1 = 1 then cmpN a.2.1 b.2.1 else -1) else if b.1 = 1 then 1 else cmpL a.2.2.data.toList b.2.2.data.toList)
  else 0
theorem may_kind {a : Vl} (h : may a = true) : (a.1 = 1 ∧ a.2.2.size = 0) ∨ (a.1 = 2 ∧ a.2.1 = 0 ∧ a.2.2.size ≤ 64) := by
  unfold may mayB at h; simpa using h
theorem text_eq {s t : ByteArray} (h : s.data.toList = t.data.toList) : s = t := by
  cases s; cases t; simp at h; congr 1
theorem empty_of {s : ByteArray} (h : s.size = 0) : s = ⟨#[]⟩ := by
  cases s with
  | mk d => congr 1; exact Array.eq_empty_of_size_eq_zero h
theorem cmpV_swap (a b : Vl) : cmpV b a = - cmpV a b := by
  unfold cmpV
  rw [Bool.and_comm]
  by_cases h : (may a && may b) = true
  · rw [if_pos h, if_pos h]
    have hL := cmpL_swap a.2.2.data.toList b.2.2.data.toList
    by_cases ha : a.1 = 1 <;> by_cases hb : b.1 = 1 <;> simp only [ha, hb, if_true, if_false]
    · unfold cmpN; split <;> split <;> (try split) <;> omega
    · rfl
    · exact hL
  · rw [if_neg h, if_neg h]; rfl
theorem cmpV_zero {a b : Vl} (ha : may a = true) (hb : may b = true) : cmpV a b = 0 ↔ a = b := by
  obtain ⟨k, n, s⟩ := a
  obtain ⟨k', n', s'⟩ := b
  unfold cmpV
  rw [ha, hb]
  rcases may_kind ha with ⟨h1, h2⟩ | ⟨h1, h2, h3⟩ <;> rcases may_kind hb with ⟨h4, h5⟩ | ⟨h4, h5, h6⟩ <;> simp only at h1 h2 h4 h5 <;> subst h1 <;> subst h4
  · have e1 := empty_of h2
    have e2 := empty_of h5
    subst e1; subst e2
    simp only [Bool.and_self, if_true]
    unfold cmpN
    constructor
    · intro h
      have : n = n' := by split at h <;> (try split at h) <;> omega
      rw [this]
    · intro h; cases h; simp
  · simp
  · simp
  · subst h2; subst h5
    simp only [Bool.and_self, if_true, if_neg (show ¬ (2 : Int) = 1 by decide)]
    rw [cmpL_zero]
    constructor
    · intro h; rw [text_eq h]
    · intro h; cases h; rfl
theorem cmpV_trans {a b c : Vl} (ha : may a = true) (hb : may b = true) (hc : may c = true) (h : cmpV a b ≤ 0) (k : cmpV b c ≤ 0) : cmpV a c = min (cmpV a b) (cmpV b c) := by
  unfold cmpV at h k ⊢
  rw [ha, hb] at h
  rw [hb, hc] at k
  rw [ha, hb, hc]
  simp only [Bool.and_self, if_true] at h k ⊢
  by_cases ka : a.1 = 1 <;> by_cases kb : b.1 = 1 <;> by_cases kc : c.1 = 1 <;> simp only [ka, kb, kc, if_true, if_false] at h k ⊢
  · unfold cmpN at h k ⊢; omega
  · unfold cmpN at h ⊢; omega
  · omega
  · rcases cmpL_range b.2.2.data.toList c.2.2.data.toList with e | e | e <;> omega
  · omega
  · omega
  · omega
  · exact cmpL_trans _ _ _ h k
theorem cmpV_range (a b : Vl) : cmpV a b = -1 ∨ cmpV a b = 0 ∨ cmpV a b = 1 := by
  unfold cmpV cmpN
  have := cmpL_range a.2.2.data.toList b.2.2.data.toList
  split
  · split
    · split
      · split
        · simp
        · split <;> simp
      · simp
    · split
      · simp
      · exact this
  · simp
end Go.Proofs.YtljkneajdndgjabGreat
