/-
  A helper of ours: no claim of its own. Layer 10 (edge): edges as lists: rows that have edges, each row's jumps, runs of one row; what is in form; what is made row by row. No program in it.
-/
import Derived.Test.YtljkneajdndgjaaGreatStepA
import Derived.Test.YtljkneajdndgjaaGreatStepR
import Derived.Test.YtljkneajdndgjaaGreatRows
import Derived.Test.YtljkneajdndgjaaGreatMem
set_option linter.unusedVariables false
set_option linter.unusedSimpArgs false
namespace Go.Proofs.YtljkneajdndgjaaGreat
open Go.RowKit
theorem tSpn : ElemT Tryz.prog 95 49 (.agg #[.int .i64 0, .int .i64 0]) 2 16 := ElemT.mk' Tryz.underlying95 (by kernel_rfl) rfl (by omega)
abbrev OwnSp (w : World) (base : Nat) (v : Value) (l : List Sp) : Prop := w.ownsRow base 49 2 v l.length (ps l)
abbrev OwnIo (w : World) (base : Nat) (v : Value) (l : List Int) : Prop := OwnO w base 3 1 v l.length (zc l)
theorem own_appS {w : World} {B : Nat} {v : Value} {l m : List Sp} (h : w.ownsRow B 49 2 v (l.length + m.length) (ps l ++ ps m)) : OwnSp w B v (l ++ m) := by
  unfold OwnSp; rw [List.length_append, ps_append]; exact h
section
variable {w w' w1 : World} {base e size n : Nat} {v : Value} {xs : List Value}
theorem own_heap (h : w.ownsRow base e size v n xs) {g : Nat} (hg : v.ownBlock = some g) : ∃ cur, w.heap[g]? = some (.cells cur e (0, 0)) := by
  rcases h.2 with ⟨rfl, _⟩ | ⟨g', cap, cur, rfl, hb, hh, _⟩
  · cases hg
  · obtain rfl : g' = g := by simpa [Value.ownBlock] using hg
    exact ⟨cur, hh⟩
theorem own_keep (h : w.ownsRow base e size v n xs) (hk : ∀ g, v.ownBlock = some g → w'.heap[g]? = w.heap[g]?) : w'.ownsRow base e size v n xs := by
  refine ⟨h.1, ?_⟩
  rcases h.2 with h2 | ⟨g, cap, cur, rfl, hb, hh, r⟩
  · exact .inl h2
  · exact .inr ⟨g, cap, cur, rfl, hb, (hk g (by simp [Value.ownBlock])).trans hh, r⟩
end
/-- What lifetimes are made in: the open beginnings and the lifetimes, each in its box. -/
structure LS (w0 w : World) (bo bm : Nat) (uo um : Value) (O : List Int) (M : List Sp) : Prop where
  oo : Ob w bo 78 [uo]
  om : Ob w bm 95 [um]
  ho : OwnIo w w0.heap.size uo O
  hm : OwnSp w w0.heap.size um M
  X : Ext w0 w
  bo' : w0.heap.size ≤ bo
  bm' : w0.heap.size ≤ bm
section
variable {w0 w w1 : World} {bo bm : Nat} {uo um v1 : Value} {O O1 : List Int} {M M1 : List Sp}
end
end Go.Proofs.YtljkneajdndgjaaGreat
set_option linter.unusedVariables false
set_option linter.unusedSimpArgs false
namespace Go.Proofs.YtljkneajdndgjaaGreat
open Go.RowKit
/-- Texts, byte by byte. -/
def cmpL : List UInt8 → List UInt8 → Int
  | [], [] => 0
  | [], _ :: _ => -1
  | _ :: _, [] => 1
  | x :: a, y :: b => if x < y then -1 else if x = y then cmpL a b else 1
theorem u8_tri (x y : UInt8) : x < y ∨ x = y ∨ y < x := by
  rcases Nat.lt_trichotomy x.toNat y.toNat with h | h | h
  · exact .inl h
  · exact .inr (.inl (UInt8.toNat_inj.1 h))
  · exact .inr (.inr h)
theorem u8_asym {x y : UInt8} (h : x < y) : ¬ y < x ∧ x ≠ y := by
  have h' : x.toNat < y.toNat := h
  exact ⟨fun k => by have k' : y.toNat < x.toNat := k; omega, fun e => by subst e; omega⟩
theorem u8_irr (x : UInt8) : ¬ x < x := fun h => (u8_asym h).1 h
theorem u8_trans {x y z : UInt8} (h : x < y) (k : y < z) : x < z := by
  have h' : x.toNat < y.toNat := h
  have k' : y.toNat < z.toNat := k
  show x.toNat < z.toNat
  omega
theorem cmpL_lt {x y : UInt8} (a b : List UInt8) (h : x < y) : cmpL (x :: a) (y :: b) = -1 := by simp only [cmpL]; rw [if_pos h]
theorem cmpL_gt {x y : UInt8} (a b : List UInt8) (h : y < x) : cmpL (x :: a) (y :: b) = 1 := by simp only [cmpL]; rw [if_neg (u8_asym h).1, if_neg (Ne.symm (u8_asym h).2)]
theorem cmpL_eq (x : UInt8) (a b : List UInt8) : cmpL (x :: a) (x :: b) = cmpL a b := by simp only [cmpL, if_neg (u8_irr x), if_true]
theorem cmpL_nil (y : UInt8) (b : List UInt8) : cmpL [] (y :: b) = -1 := rfl
theorem cmpL_nil' (y : UInt8) (b : List UInt8) : cmpL (y :: b) [] = 1 := rfl
theorem cmpL_swap : ∀ a b : List UInt8, cmpL b a = - cmpL a b
  | [], [] => rfl
  | [], _ :: _ => rfl
  | _ :: _, [] => rfl
  | x :: a, y :: b => by
    rcases u8_tri x y with h | h | h
    · rw [cmpL_lt _ _ h, cmpL_gt _ _ h]; rfl
    · subst h; rw [cmpL_eq, cmpL_eq]; exact cmpL_swap a b
    · rw [cmpL_lt _ _ h, cmpL_gt _ _ h]
theorem cmpL_range : ∀ a b : List UInt8, cmpL a b = -1 ∨ cmpL a b = 0 ∨ cmpL a b = 1
  | [], [] => .inr (.inl rfl)
  | [], _ :: _ => .inl rfl
  | _ :: _, [] => .inr (.inr rfl)
  | x :: a, y :: b => by
    rcases u8_tri x y with h | h | h
    · rw [cmpL_lt _ _ h]; simp
    · subst h; rw [cmpL_eq]; exact cmpL_range a b
    · rw [cmpL_gt _ _ h]; simp
theorem cmpL_zero : ∀ a b : List UInt8, cmpL a b = 0 ↔ a = b
  | [], [] => by simp [cmpL]
  | [], _ :: _ => by simp [cmpL]
  | _ :: _, [] => by simp [cmpL]
  | x :: a, y :: b => by
    rcases u8_tri x y with h | h | h
    · rw [cmpL_lt _ _ h]; have := (u8_asym h).2; simp [this]
    · subst h; rw [cmpL_eq, cmpL_zero a b]; simp
    · rw [cmpL_gt _ _ h]; have := Ne.symm (u8_asym h).2; simp [this]
theorem cmpL_trans : ∀ a b c : List UInt8, cmpL a b ≤ 0 → cmpL b c ≤ 0 → cmpL a c = min (cmpL a b) (cmpL b c)
  | [], [], c, _, h => by rw [show cmpL [] [] = 0 from rfl]; omega
  | [], y :: b, [], _, h => by rw [cmpL_nil'] at h; omega
  | [], y :: b, z :: c, _, h => by rw [cmpL_nil, cmpL_nil]; rcases cmpL_range (y :: b) (z :: c) with e | e | e <;> omega
  | x :: a, [], _, h, _ => by rw [cmpL_nil'] at h; omega
  | x :: a, y :: b, [], _, h => by rw [cmpL_nil'] at h; omega
  | x :: a, y :: b, z :: c, h, k => by
    rcases u8_tri x y with h1 | h1 | h1
    · rw [cmpL_lt _ _ h1]
      rcases u8_tri y z with k1 | k1 | k1
      · rw [cmpL_lt _ _ k1, cmpL_lt _ _ (u8_trans h1 k1)]; rfl
      · subst k1
        rw [cmpL_eq] at k ⊢
        rw [cmpL_lt _ _ h1]
        rcases cmpL_range b c with e | e | e <;> omega
      · rw [cmpL_gt _ _ k1] at k; omega
    · subst h1
      rw [cmpL_eq] at h ⊢
      rcases u8_tri x z with k1 | k1 | k1
      · rw [cmpL_lt _ _ k1, cmpL_lt _ _ k1]; rcases cmpL_range a b with e | e | e <;> omega
      · subst k1
        rw [cmpL_eq] at k ⊢
        rw [cmpL_eq]
        exact cmpL_trans a b c h k
      · rw [cmpL_gt _ _ k1] at k; omega
    · rw [cmpL_gt _ _ h1] at h; omega
theorem less_iff : ∀ a b : List UInt8, Op.bytesLess a b = decide (cmpL a b < 0)
  | [], [] => rfl
  | [], _ :: _ => rfl
  | _ :: _, [] => rfl
  | x :: a, y :: b => by
    simp only [Op.bytesLess]
    rcases u8_tri x y with h | h | h
    · rw [cmpL_lt _ _ h]; simp [h]
    · subst h; rw [cmpL_eq, less_iff a b]; simp [u8_irr]
    · rw [cmpL_gt _ _ h]; simp [(u8_asym h).1, Ne.symm (u8_asym h).2]
/-- Numbers. -/
def cmpN (n m : Int) : Int := if n < m then -1 else if m < n then 1 else 0
/-- Is it a value: of kind k, with the number n, and the text s? -/
def mayB (k n : Int) (s : ByteArray) : Bool := decide (k = 1 ∧ s.size = 0) || decide (k = 2 ∧ n = 0 ∧ s.size ≤ 64)
/-- Values: kind, number, text. -/
abbrev Vl := Int × Int × ByteArray
def may (a : Vl) : Bool := mayB a.1 a.2.1 a.2.2
def cmpV (a b : Vl) : Int :=
  if may a && may b then
    (if a.1 = 1 then (if b.1 = 1 then cmpN a.2.1 b.2.1 else -1) else if b.1 = 1 then 1 else cmpL a.2.2.data.toList b.2.2.data.toList)
  else 0
theorem may_kind {a : Vl} (h : may a = true) : (a.1 = 1 ∧ a.2.2.size = 0) ∨ (a.1 = 2 ∧ a.2.1 = 0 ∧ a.2.2.size ≤ 64) := by
  unfold may mayB at h; simpa using h
theorem text_eq {s t : ByteArray} (h : s.data.toList = t.data.toList) : s = t := by
  cases s; cases t; simp at h; congr 1
theorem empty_of {s : ByteArray} (h : s.size = 0) : s = ⟨#[]⟩ := by
  cases s with
  | mk d => congr 1; exact Array.eq_empty_of_size_eq_zero h
theorem cmpV_swap (a b : Vl) : cmpV b a = - cmpV a b := by
  unfold cmpV
  rw [Bool.and_comm]
  by_cases h : (may a && may b) = true
  · rw [if_pos h, if_pos h]
    have hL := cmpL_swap a.2.2.data.toList b.2.2.data.toList
    by_cases ha : a.1 = 1 <;> by_cases hb : b.1 = 1 <;> simp only [ha, hb, if_true, if_false]
    · unfold cmpN; split <;> split <;> (try split) <;> omega
    · rfl
    · exact hL
  · rw [if_neg h, if_neg h]; rfl
theorem cmpV_zero {a b : Vl} (ha : may a = true) (hb : may b = true) : cmpV a b = 0 ↔ a = b := by
  obtain ⟨k, n, s⟩ := a
  obtain ⟨k', n', s'⟩ := b
  unfold cmpV
  rw [ha, hb]
  rcases may_kind ha with ⟨h1, h2⟩ | ⟨h1, h2, h3⟩ <;> rcases may_kind hb with ⟨h4, h5⟩ | ⟨h4, h5, h6⟩ <;> simp only at h1 h2 h4 h5 <;> subst h1 <;> subst h4
  · have e1 := empty_of h2
    have e2 := empty_of h5
    subst e1; subst e2
    simp only [Bool.and_self, if_true]
    unfold cmpN
    constructor
    · intro h
      have : n = n' := by split at h <;> (try split at h) <;> omega
      rw [this]
    · intro h; cases h; simp
  · simp
  · simp
  · subst h2; subst h5
    simp only [Bool.and_self, if_true, if_neg (show ¬ (2 : Int) = 1 by decide)]
    rw [cmpL_zero]
    constructor
    · intro h; rw [text_eq h]
    · intro h; cases h; rfl
theorem cmpV_trans {a b c : Vl} (ha : may a = true) (hb : may b = true) (hc : may c = true) (h : cmpV a b ≤ 0) (k : cmpV b c ≤ 0) : cmpV a c = min (cmpV a b) (cmpV b c) := by
  unfold cmpV at h k ⊢
  rw [ha, hb] at h
  rw [hb, hc] at k
  rw [ha, hb, hc]
  simp only [Bool.and_self, if_true] at h k ⊢
  by_cases ka : a.1 = 1 <;> by_cases kb : b.1 = 1 <;> by_cases kc : c.1 = 1 <;> simp only [ka, kb, kc, if_true, if_false] at h k ⊢
  · unfold cmpN at h k ⊢; omega
  · unfold cmpN at h ⊢; omega
  · omega
  · rcases cmpL_range b.2.2.data.toList c.2.2.data.toList with e | e | e <;> omega
  · omega
  · omega
  · omega
  · exact cmpL_trans _ _ _ h k
theorem cmpV_range (a b : Vl) : cmpV a b = -1 ∨ cmpV a b = 0 ∨ cmpV a b = 1 := by
  unfold cmpV cmpN
  have := cmpL_range a.2.2.data.toList b.2.2.data.toList
  split
  · split
    · split
      · split
        · simp
        · split <;> simp
      · simp
    · split
      · simp
      · exact this
  · simp
end Go.Proofs.YtljkneajdndgjaaGreat
set_option linter.unusedVariables false
set_option linter.unusedSimpArgs false
namespace Go.Proofs.YtljkneajdndgjaaGreat
open Go.RowKit
/-- A value's three cells. -/
def vc (a : Vl) : List Value := [.int .i64 a.1, .int .i64 a.2.1, .string a.2.2]
/-- A row's cells. -/
def rc (l : List Vl) : List Value := l.flatMap vc
theorem rc_length (l : List Vl) : (rc l).length = l.length * 3 := by
  induction l with
  | nil => rfl
  | cons p r ih => simp only [rc, vc, List.flatMap_cons, List.length_append, List.length_cons, List.length_nil] at ih ⊢; omega
theorem rc_append (l m : List Vl) : rc (l ++ m) = rc l ++ rc m := by simp [rc]
theorem rc_one (l : List Vl) : ∀ u ∈ rc l, u.oneCell' = true := by
  intro u hu
  simp only [rc, List.mem_flatMap, vc] at hu
  obtain ⟨a, _, hu⟩ := hu
  simp at hu
  rcases hu with rfl | rfl | rfl <;> rfl
theorem rc_get : ∀ (l : List Vl) (i : Nat) (a : Vl), l[i]? = some a → ∀ j v, (vc a)[j]? = some v → (rc l)[i * 3 + j]? = some v
  | q :: r, 0, a, h, j, v, hv => by
    simp at h; subst h
    have hj : j < (vc q).length := (List.getElem?_eq_some_iff.1 hv).1
    simp only [rc, List.flatMap_cons]
    rw [List.getElem?_append_left (by omega), show 0 * 3 + j = j by omega]; exact hv
  | q :: r, i + 1, a, h, j, v, hv => by
    have := rc_get r i a (by simpa using h) j v hv
    rw [show (i + 1) * 3 + j = i * 3 + j + 1 + 1 + 1 by omega]
    simpa [rc, vc] using this
abbrev inI (n : Int) : Prop := -9223372036854775808 ≤ n ∧ n ≤ 9223372036854775807
/-- A row, where it lies. -/
abbrev Rw (w : World) (S : List Nat) (v : Value) (l : List Vl) : Prop := Sl w S 3 v l.length (rc l)
abbrev OwnR (w : World) (base : Nat) (v : Value) (l : List Vl) : Prop := w.ownsRow base 64 3 v l.length (rc l)
/-- Is it a row? -/
def mayR (l : List Vl) : Bool := decide (l.length ≤ 8) && l.all may
theorem mayR_iff {l : List Vl} : mayR l = true ↔ l.length ≤ 8 ∧ ∀ a ∈ l, may a = true := by
  unfold mayR; rw [Bool.and_eq_true, decide_eq_true_iff, List.all_eq_true]
/-- The first values that differ, else the lengths. -/
def cmpT : List Vl → List Vl → Int
  | [], [] => 0
  | [], _ :: _ => -1
  | _ :: _, [] => 1
  | x :: a, y :: b => if x = y then cmpT a b else cmpV x y
def cmpR (a b : List Vl) : Int := if mayR a && mayR b then cmpT a b else 0
theorem cmpT_swap : ∀ a b : List Vl, cmpT b a = - cmpT a b
  | [], [] => rfl
  | [], _ :: _ => rfl
  | _ :: _, [] => rfl
  | x :: a, y :: b => by
    simp only [cmpT]
    by_cases h : x = y
    · subst h; rw [if_pos rfl, if_pos rfl]; exact cmpT_swap a b
    · rw [if_neg h, if_neg (Ne.symm h)]; exact cmpV_swap x y
theorem cmpT_range : ∀ a b : List Vl, cmpT a b = -1 ∨ cmpT a b = 0 ∨ cmpT a b = 1
  | [], [] => .inr (.inl rfl)
  | [], _ :: _ => .inl rfl
  | _ :: _, [] => .inr (.inr rfl)
  | x :: a, y :: b => by
    simp only [cmpT]
    split
    · exact cmpT_range a b
    · exact cmpV_range x y
theorem cmpT_zero : ∀ a b : List Vl, (∀ x ∈ a, may x = true) → (∀ x ∈ b, may x = true) → (cmpT a b = 0 ↔ a = b)
  | [], [], _, _ => by simp [cmpT]
  | [], _ :: _, _, _ => by simp [cmpT]
  | _ :: _, [], _, _ => by simp [cmpT]
  | x :: a, y :: b, ha, hb => by
    simp only [cmpT]
    by_cases h : x = y
    · subst h; rw [if_pos rfl, cmpT_zero a b (fun z hz => ha z (by simp [hz])) (fun z hz => hb z (by simp [hz]))]; simp
    · rw [if_neg h, cmpV_zero (ha x (by simp)) (hb y (by simp))]; simp [h]
theorem cmpT_trans : ∀ a b c : List Vl, (∀ x ∈ a, may x = true) → (∀ x ∈ b, may x = true) → (∀ x ∈ c, may x = true) → cmpT a b ≤ 0 → cmpT b c ≤ 0 → cmpT a c = min (cmpT a b) (cmpT b c)
  | [], [], c, _, _, _, _, h => by rw [show cmpT [] [] = 0 from rfl]; omega
  | [], y :: b, [], _, _, _, _, h => by simp [cmpT] at h
  | [], y :: b, z :: c, _, _, _, _, h => by
    have e1 : cmpT [] (y :: b) = -1 := rfl
    have e2 : cmpT [] (z :: c) = -1 := rfl
    rw [e1, e2]; rcases cmpT_range (y :: b) (z :: c) with e | e | e <;> omega
  | x :: a, [], c, _, _, _, h, _ => by simp [cmpT] at h
  | x :: a, y :: b, [], _, _, _, _, h => by simp [cmpT] at h
  | x :: a, y :: b, z :: c, ha, hb, hc, h, k => by
    have hx := ha x (by simp)
    have hy := hb y (by simp)
    have hz := hc z (by simp)
    simp only [cmpT] at h k ⊢
    by_cases h1 : x = y
    · subst h1
      rw [if_pos rfl] at h ⊢
      by_cases k1 : x = z
      · subst k1
        rw [if_pos rfl] at k ⊢
        rw [if_pos rfl]
        exact cmpT_trans a b c (fun z hz => ha z (by simp [hz])) (fun z hz => hb z (by simp [hz])) (fun z hz => hc z (by simp [hz])) h k
      · rw [if_neg k1] at k ⊢
        rw [if_neg k1]
        have h0 := mt (cmpV_zero hx hz).1 k1
        rcases cmpV_range x z with e | e | e <;> rcases cmpT_range a b with f | f | f <;> omega
    · rw [if_neg h1] at h ⊢
      have h0 := mt (cmpV_zero hx hy).1 h1
      by_cases k1 : y = z
      · subst k1
        rw [if_neg h1]
        rw [if_pos rfl] at k ⊢
        rcases cmpV_range x y with e | e | e <;> rcases cmpT_range b c with f | f | f <;> omega
      · rw [if_neg k1] at k ⊢
        have k0 := mt (cmpV_zero hy hz).1 k1
        have ht := cmpV_trans hx hy hz h k
        have hxz : x ≠ z := by
          rintro rfl
          have h2 := (cmpV_zero hx hx).2 rfl
          rcases cmpV_range x y with e | e | e <;> rcases cmpV_range y x with f | f | f <;> omega
        rw [if_neg hxz]
        exact ht
end Go.Proofs.YtljkneajdndgjaaGreat
set_option linter.unusedVariables false
set_option linter.unusedSimpArgs false
namespace Go.Proofs.YtljkneajdndgjaaGreat
open Go.RowKit
/-- An edge: its row, where, by how much. -/
abbrev Ed := List Vl × Jp
abbrev Gp := List Vl × List Jp
/-- Two lists that rise and have the same things are one. -/
theorem asc_unique {α : Type} {R : α → α → Prop} (irr : ∀ a, ¬ R a a) (asym : ∀ a b, R a b → R b a → False) : ∀ l m : List α, l.Pairwise R → m.Pairwise R → (∀ x, x ∈ l ↔ x ∈ m) → l = m
  | [], [], _, _, _ => rfl
  | [], y :: m, _, _, h => by have := (h y).2 (by simp); simp at this
  | x :: l, [], _, _, h => by have := (h x).1 (by simp); simp at this
  | x :: l, y :: m, hl, hm, h => by
    have hl' := List.pairwise_cons.1 hl
    have hm' := List.pairwise_cons.1 hm
    have e : x = y := by
      rcases List.mem_cons.1 ((h x).1 (by simp)) with e | hx
      · exact e
      · rcases List.mem_cons.1 ((h y).2 (by simp)) with e | hy
        · exact e.symm
        · exact (asym _ _ (hm'.1 x hx) (hl'.1 y hy)).elim
    subst e
    congr 1
    refine asc_unique irr asym l m hl'.2 hm'.2 fun z => ⟨fun hz => ?_, fun hz => ?_⟩
    · rcases List.mem_cons.1 ((h z).1 (by simp [hz])) with rfl | hz'
      · exact absurd (hl'.1 z hz) (irr z)
      · exact hz'
    · rcases List.mem_cons.1 ((h z).2 (by simp [hz])) with rfl | hz'
      · exact absurd (hm'.1 z hz) (irr z)
      · exact hz'
/-- A row ahead of another; both are rows. -/
def rlt (a b : List Vl) : Prop := (mayR a = true ∧ mayR b = true) ∧ cmpT a b < 0
theorem cmpT_self {a : List Vl} (h : mayR a = true) : cmpT a a = 0 := (cmpT_zero a a (mayR_iff.1 h).2 (mayR_iff.1 h).2).2 rfl
theorem rlt_irr (a : List Vl) : ¬ rlt a a := fun h => by have := cmpT_self h.1.1; have := h.2; omega
theorem rlt_asym (a b : List Vl) (h : rlt a b) (k : rlt b a) : False := by have := cmpT_swap a b; have := h.2; have := k.2; omega
theorem rlt_trans {a b c : List Vl} (h : rlt a b) (k : rlt b c) : rlt a c := by
  have := cmpT_trans a b c (mayR_iff.1 h.1.1).2 (mayR_iff.1 h.1.2).2 (mayR_iff.1 k.1.2).2 (by have := h.2; omega) (by have := k.2; omega)
  exact ⟨⟨h.1.1, k.1.2⟩, by have := h.2; have := k.2; omega⟩
theorem rlt_ne {a b : List Vl} (h : rlt a b) : a ≠ b := fun e => by subst e; exact rlt_irr a h
theorem row_eq {a b : List Vl} (ha : mayR a = true) (hb : mayR b = true) : cmpT a b = 0 ↔ a = b := cmpT_zero a b (mayR_iff.1 ha).2 (mayR_iff.1 hb).2
/-- Of three ways one. -/
theorem row_ways {a b : List Vl} (ha : mayR a = true) (hb : mayR b = true) : rlt a b ∨ a = b ∨ rlt b a := by
  have h0 := row_eq ha hb
  have hs := cmpT_swap a b
  rcases cmpT_range a b with e | e | e
  · left; exact ⟨⟨ha, hb⟩, by omega⟩
  · right; left; exact h0.1 e
  · right; right; exact ⟨⟨hb, ha⟩, by omega⟩
theorem mayR_len {r : List Vl} (h : mayR r = true) : r.length ≤ 8 := (mayR_iff.1 h).1
theorem cmpR_of {a b : List Vl} (ha : mayR a = true) (hb : mayR b = true) : cmpR a b = cmpT a b := by unfold cmpR; rw [ha, hb]; rfl
/-- A row's jumps, as they stand. -/
def jmps (l : List Ed) (r : List Vl) : List Jp := (l.filter fun e => decide (e.1 = r)).map Prod.snd
theorem jmps_cons (e : Ed) (l : List Ed) (r : List Vl) : jmps (e :: l) r = if e.1 = r then e.2 :: jmps l r else jmps l r := by
  unfold jmps
  by_cases h : e.1 = r
  · rw [if_pos h, List.filter_cons_of_pos (by simpa using h)]; rfl
  · rw [if_neg h, List.filter_cons_of_neg (by simpa using h)]
theorem jmps_append (l m : List Ed) (r : List Vl) : jmps (l ++ m) r = jmps l r ++ jmps m r := by simp [jmps]
theorem jmps_mem {l : List Ed} {r : List Vl} {j : Jp} : j ∈ jmps l r ↔ (r, j) ∈ l := by
  unfold jmps
  rw [List.mem_map]
  constructor
  · rintro ⟨⟨q, k⟩, h, rfl⟩
    rw [List.mem_filter, decide_eq_true_iff] at h
    obtain ⟨h1, rfl⟩ := h
    exact h1
  · intro h
    exact ⟨(r, j), by rw [List.mem_filter]; exact ⟨h, by simp⟩, rfl⟩
/-- Runs of one row. -/
def grp : List Ed → List Gp
  | [] => []
  | e :: r => match grp r with
    | [] => [(e.1, [e.2])]
    | (q, f) :: t => if q = e.1 then (q, e.2 :: f) :: t else (e.1, [e.2]) :: (q, f) :: t
theorem grp_head : ∀ (e : Ed) (r : List Ed), ∃ f t, grp (e :: r) = (e.1, f) :: t
  | e, [] => ⟨_, _, rfl⟩
  | e, d :: r => by
    obtain ⟨f, t, h⟩ := grp_head d r
    rw [grp, h]
    by_cases h1 : d.1 = e.1
    · simp only [if_pos h1]; exact ⟨_, _, by rw [h1]⟩
    · simp only [if_neg h1]; exact ⟨_, _, rfl⟩
/-- A run, and what is behind it. -/
theorem grp_run (r : List Vl) : ∀ (a : List Ed) (b : List Ed), a ≠ [] → (∀ e ∈ a, e.1 = r) → (∀ e, b.head? = some e → e.1 ≠ r) → grp (a ++ b) = (r, a.map Prod.snd) :: grp b
  | [], _, h, _, _ => absurd rfl h
  | [e], b, _, ha, hb => by
    have he := ha e (by simp)
    cases b with
    | nil => rw [List.append_nil]; simp [grp, he]
    | cons d b =>
      obtain ⟨f, t, h⟩ := grp_head d b
      have hd := hb d rfl
      show grp (e :: d :: b) = _
      rw [grp, h]
      simp only [he]
      rw [if_neg hd]
      rfl
  | e :: d :: a, b, _, ha, hb => by
    have he := ha e (by simp)
    have ih := grp_run r (d :: a) b (by simp) (fun x hx => ha x (by simp [hx])) hb
    show grp (e :: ((d :: a) ++ b)) = _
    rw [grp, ih]
    simp only [he, if_true, List.map_cons]
/-- The rows of edges do not fall. -/
def Rise (l : List Ed) : Prop := (∀ e ∈ l, mayR e.1 = true) ∧ l.Pairwise fun a b => cmpT a.1 b.1 ≤ 0
theorem Rise.tail {e : Ed} {l : List Ed} (h : Rise (e :: l)) : Rise l := ⟨fun x hx => h.1 x (by simp [hx]), (List.pairwise_cons.1 h.2).2⟩
theorem grp_rows : ∀ {l : List Ed}, Rise l → ((grp l).map Prod.fst).Pairwise rlt ∧ (∀ r, r ∈ (grp l).map Prod.fst ↔ ∃ e ∈ l, e.1 = r) ∧ (∀ g ∈ grp l, g.2 = jmps l g.1 ∧ g.2 ≠ [])
  | [], _ => ⟨by simp [grp], by simp [grp], by simp [grp]⟩
  | e :: l, h => by
    obtain ⟨i1, i2, i3⟩ := grp_rows h.tail
    have he := h.1 e (by simp)
    have hp := (List.pairwise_cons.1 h.2).1
    cases l with
    | nil =>
      refine ⟨by simp [grp], by simp [grp, eq_comm], ?_⟩
      intro g hg
      obtain rfl : g = (e.1, [e.2]) := by simpa [grp] using hg
      simp [jmps]
    | cons d l =>
      obtain ⟨f, t, hg⟩ := grp_head d l
      rw [hg] at i1 i2 i3
      have hd := h.1 d (by simp)
      have hle := hp d (by simp)
      rw [grp, hg]
      by_cases h1 : d.1 = e.1
      · simp only [if_pos h1]
        refine ⟨by simpa using i1, fun r => ?_, fun g hgm => ?_⟩
        · have := i2 r
          simp only [List.map_cons, List.mem_cons] at this ⊢
          rw [this]
          constructor
          · rintro ⟨x, hx, rfl⟩; exact ⟨x, .inr hx, rfl⟩
          · rintro ⟨x, rfl | hx, rfl⟩
            · exact ⟨d, .inl rfl, h1⟩
            · exact ⟨x, hx, rfl⟩
        · rcases List.mem_cons.1 hgm with rfl | hgm
          · have := (i3 (d.1, f) (by simp)).1
            simp only at this ⊢
            rw [jmps_cons, if_pos h1.symm, this]
            exact ⟨rfl, by simp⟩
          · have hne : e.1 ≠ g.1 := by
              rw [← h1]
              have := (List.pairwise_cons.1 i1).1 g.1 (List.mem_map.2 ⟨g, hgm, rfl⟩)
              exact rlt_ne this
            rw [jmps_cons, if_neg hne]
            exact i3 g (by simp [hgm])
      · simp only [if_neg h1]
        have hlt : rlt e.1 d.1 := by
          rcases row_ways he hd with h2 | h2 | h2
          · exact h2
          · exact absurd h2.symm h1
          · have := h2.2; have := cmpT_swap e.1 d.1; omega
        have hal : ∀ g ∈ (d.1, f) :: t, rlt e.1 g.1 := by
          intro g hgm
          rcases List.mem_cons.1 hgm with rfl | hgm
          · exact hlt
          · exact rlt_trans hlt ((List.pairwise_cons.1 i1).1 g.1 (List.mem_map.2 ⟨g, hgm, rfl⟩))
        refine ⟨?_, fun r => ?_, fun g hgm => ?_⟩
        · rw [List.map_cons, List.pairwise_cons]
          refine ⟨fun r hr => ?_, i1⟩
          obtain ⟨g, hgm, rfl⟩ := List.mem_map.1 hr
          exact hal g hgm
        · have := i2 r
          rw [List.map_cons, List.mem_cons, this]
          constructor
          · rintro (rfl | ⟨x, hx, rfl⟩)
            · exact ⟨e, by simp, rfl⟩
            · exact ⟨x, List.mem_cons_of_mem _ hx, rfl⟩
          · rintro ⟨x, hx, rfl⟩
            rcases List.mem_cons.1 hx with rfl | hx
            · exact .inl rfl
            · exact .inr ⟨x, hx, rfl⟩
        · rcases List.mem_cons.1 hgm with rfl | hgm
          · refine ⟨?_, by simp⟩
            simp only
            rw [jmps_cons, if_pos rfl]
            have : jmps (d :: l) e.1 = [] := by
              apply List.eq_nil_iff_forall_not_mem.2
              intro j hj
              have := (i2 e.1).2 ⟨_, jmps_mem.1 hj, rfl⟩
              obtain ⟨g, hgm, hge⟩ := List.mem_map.1 this
              exact rlt_ne (hal g hgm) hge.symm
            rw [this]
          · have := hal g hgm
            rw [jmps_cons, if_neg (rlt_ne this)]
            exact i3 g hgm
/-- A row put into rows that rise. -/
def hasR (rows : List (List Vl)) (r : List Vl) : Bool := rows.any fun x => decide (x = r)
theorem hasR_iff {rows : List (List Vl)} {r : List Vl} : hasR rows r = true ↔ r ∈ rows := by
  unfold hasR
  rw [List.any_eq_true]
  exact ⟨fun ⟨x, hx, e⟩ => by rw [decide_eq_true_iff] at e; subst e; exact hx, fun h => ⟨r, h, by simp⟩⟩
def insR (rows : List (List Vl)) (r : List Vl) : List (List Vl) := if hasR rows r then rows else rows.filter (fun x => decide (cmpT x r < 0)) ++ r :: rows.filter (fun x => decide (0 < cmpT x r))
def rowsL (l : List Ed) : List (List Vl) := l.foldl (fun rows e => insR rows e.1) []
theorem rowsL_snoc (l : List Ed) (e : Ed) : rowsL (l ++ [e]) = insR (rowsL l) e.1 := by simp [rowsL]
theorem insR_mem {rows : List (List Vl)} {r x : List Vl} (hv : ∀ y ∈ rows, mayR y = true) (hr : mayR r = true) : x ∈ insR rows r ↔ x = r ∨ x ∈ rows := by
  unfold insR
  split
  · rename_i h
    rw [hasR_iff] at h
    constructor
    · exact .inr
    · rintro (rfl | h')
      · exact h
      · exact h'
  · rename_i h
    rw [hasR_iff] at h
    rw [List.mem_append, List.mem_cons, List.mem_filter, List.mem_filter, decide_eq_true_iff, decide_eq_true_iff]
    constructor
    · rintro (⟨h1, _⟩ | rfl | ⟨h1, _⟩)
      · exact .inr h1
      · exact .inl rfl
      · exact .inr h1
    · rintro (rfl | h1)
      · exact .inr (.inl rfl)
      · rcases row_ways (hv x h1) hr with h2 | rfl | h2
        · exact .inl ⟨h1, h2.2⟩
        · exact absurd h1 h
        · refine .inr (.inr ⟨h1, ?_⟩)
          have := h2.2; have := cmpT_swap x r; omega
theorem insR_asc {rows : List (List Vl)} {r : List Vl} (hv : ∀ y ∈ rows, mayR y = true) (hr : mayR r = true) (h : rows.Pairwise rlt) : (insR rows r).Pairwise rlt := by
  unfold insR
  split
  · exact h
  · rw [List.pairwise_append]
    refine ⟨h.sublist List.filter_sublist, ?_, ?_⟩
    · rw [List.pairwise_cons]
      refine ⟨fun x hx => ?_, h.sublist List.filter_sublist⟩
      rw [List.mem_filter, decide_eq_true_iff] at hx
      exact ⟨⟨hr, hv x hx.1⟩, by have := cmpT_swap x r; omega⟩
    · intro x hx y hy
      rw [List.mem_filter, decide_eq_true_iff] at hx
      have hxr : rlt x r := ⟨⟨hv x hx.1, hr⟩, hx.2⟩
      rcases List.mem_cons.1 hy with rfl | hy
      · exact hxr
      · rw [List.mem_filter, decide_eq_true_iff] at hy
        exact rlt_trans hxr ⟨⟨hr, hv y hy.1⟩, by have := cmpT_swap y r; omega⟩
theorem rowsL_ok {l : List Ed} (h : ∀ e ∈ l, mayR e.1 = true) : (rowsL l).Pairwise rlt ∧ (∀ r, r ∈ rowsL l ↔ ∃ e ∈ l, e.1 = r) := by
  have key : ∀ (m : List Ed) (rows : List (List Vl)), (∀ e ∈ m, mayR e.1 = true) → (∀ y ∈ rows, mayR y = true) → rows.Pairwise rlt →
      (m.foldl (fun rows e => insR rows e.1) rows).Pairwise rlt ∧ ∀ r, r ∈ m.foldl (fun rows e => insR rows e.1) rows ↔ r ∈ rows ∨ ∃ e ∈ m, e.1 = r := by
    intro m
    induction m with
    | nil => intro rows _ _ h; exact ⟨h, by simp⟩
    | cons e m ih =>
      intro rows hm hv ha
      have he := hm e (by simp)
      have hv' : ∀ y ∈ insR rows e.1, mayR y = true := fun y hy => by
        rcases (insR_mem hv he).1 hy with rfl | hy
        · exact he
        · exact hv y hy
      obtain ⟨i1, i2⟩ := ih (insR rows e.1) (fun x hx => hm x (by simp [hx])) hv' (insR_asc hv he ha)
      refine ⟨i1, fun r => ?_⟩
      rw [List.foldl_cons, i2 r, insR_mem hv he]
      constructor
      · rintro ((rfl | h1) | ⟨x, hx, rfl⟩)
        · exact .inr ⟨e, by simp, rfl⟩
        · exact .inl h1
        · exact .inr ⟨x, by simp [hx], rfl⟩
      · rintro (h1 | ⟨x, hx, rfl⟩)
        · exact .inl (.inr h1)
        · rcases List.mem_cons.1 hx with rfl | hx
          · exact .inl (.inl rfl)
          · exact .inr ⟨x, hx, rfl⟩
  have := key l [] h (by simp) List.Pairwise.nil
  exact ⟨this.1, fun r => by have := this.2 r; simpa [rowsL] using this⟩
theorem rowsL_len (l : List Ed) (h : ∀ e ∈ l, mayR e.1 = true) : (rowsL l).length ≤ l.length := by
  have key : ∀ (m : List Ed) (rows : List (List Vl)), (m.foldl (fun rows e => insR rows e.1) rows).length ≤ rows.length + m.length := by
    intro m
    induction m with
    | nil => intro rows; simp
    | cons e m ih =>
      intro rows
      have := ih (insR rows e.1)
      have h2 : (insR rows e.1).length ≤ rows.length + 1 := by
        unfold insR
        split
        · omega
        · have key2 : ∀ (q : List (List Vl)), (q.filter (fun x => decide (cmpT x e.1 < 0))).length + (q.filter (fun x => decide (0 < cmpT x e.1))).length ≤ q.length := by
            intro q
            induction q with
            | nil => simp
            | cons a q ih =>
              rw [List.filter_cons, List.filter_cons]
              by_cases h1 : cmpT a e.1 < 0
              · rw [if_pos (by simpa using h1), if_neg (by simp; omega)]; simp only [List.length_cons]; omega
              · rw [if_neg (by simpa using h1)]
                split <;> simp only [List.length_cons] <;> omega
          have := key2 rows
          rw [List.length_append, List.length_cons]
          omega
      rw [List.foldl_cons, List.length_cons]
      omega
  have := key l []
  simpa [rowsL] using this
/-- Each row with its jumps. -/
def byRows (l : List Ed) : List Gp := (rowsL l).map fun r => (r, jmps l r)
theorem grp_eq {l : List Ed} (h : Rise l) : grp l = byRows l := by
  obtain ⟨h1, h2, h3⟩ := grp_rows h
  obtain ⟨k1, k2⟩ := rowsL_ok h.1
  have e : (grp l).map Prod.fst = rowsL l := asc_unique rlt_irr rlt_asym _ _ h1 k1 fun r => by rw [h2, k2]
  unfold byRows
  rw [← e, List.map_map]
  have key : ∀ (G : List Gp), (∀ g ∈ G, g.2 = jmps l g.1) → G = G.map ((fun r => (r, jmps l r)) ∘ Prod.fst) := by
    intro G
    induction G with
    | nil => intro _; rfl
    | cons g G ih =>
      intro hG
      rw [List.map_cons, ← ih fun x hx => hG x (by simp [hx])]
      congr 1
      exact Prod.ext rfl (hG g (by simp))
  exact key _ fun g hg => (h3 g hg).1
def evL (op : List Jp → Int × List Jp) (G : List Gp) : List Ed := G.flatMap fun g => (op g.2).2.map fun j => (g.1, j)
theorem evL_snoc (op : List Jp → Int × List Jp) (G : List Gp) (g : Gp) : evL op (G ++ [g]) = evL op G ++ (op g.2).2.map fun j => (g.1, j) := by simp [evL]
/-- In form. -/
def riseB (l : List Ed) : Bool := decide (l.Pairwise fun a b => cmpT a.1 b.1 ≤ 0)
def mayE (l : List Ed) : Bool := decide (l.length ≤ 4096) && (l.all (fun e => mayR e.1) && (riseB l && (grp l).all fun g => mayJ g.2))
theorem mayE_iff {l : List Ed} : mayE l = true ↔ l.length ≤ 4096 ∧ Rise l ∧ ∀ g ∈ grp l, mayJ g.2 = true := by
  unfold mayE riseB Rise
  rw [Bool.and_eq_true, Bool.and_eq_true, Bool.and_eq_true, decide_eq_true_iff, decide_eq_true_iff, List.all_eq_true, List.all_eq_true]
  exact ⟨fun ⟨a, b, c, d⟩ => ⟨a, ⟨b, c⟩, d⟩, fun ⟨a, ⟨b, c⟩, d⟩ => ⟨a, b, c, d⟩⟩
/-- Ahead of: by the row, then by the place. -/
def elt (a b : Ed) : Prop := rlt a.1 b.1 ∨ (a.1 = b.1 ∧ a.2.1 < b.2.1)
theorem elt_trans {a b c : Ed} (h : elt a b) (k : elt b c) : elt a c := by
  rcases h with h | ⟨h1, h2⟩
  · rcases k with k | ⟨k1, k2⟩
    · exact .inl (rlt_trans h k)
    · exact .inl (by rw [← k1]; exact h)
  · rcases k with k | ⟨k1, k2⟩
    · exact .inl (by rw [h1]; exact k)
    · exact .inr ⟨h1.trans k1, by omega⟩
theorem mayE_doc {l : List Ed} : mayE l = true ↔ l.length ≤ 4096 ∧ (∀ e ∈ l, mayR e.1 = true ∧ okJ e.2 = true) ∧ l.Pairwise elt ∧ ∀ r ∈ rowsL l, (jmps l r).length ≤ 1024 := by
  rw [mayE_iff]
  constructor
  · rintro ⟨h1, h2, h3⟩
    obtain ⟨k1, k2⟩ := rowsL_ok h2.1
    have hj : ∀ r ∈ rowsL l, mayJ (jmps l r) = true := by
      intro r hr
      refine h3 (r, jmps l r) ?_
      rw [grp_eq h2]
      exact List.mem_map.2 ⟨r, hr, rfl⟩
    refine ⟨h1, fun e he => ⟨h2.1 e he, ?_⟩, ?_, fun r hr => mayJ_len (hj r hr)⟩
    · exact (mayJ_iff.1 (hj e.1 ((k2 _).2 ⟨e, he, rfl⟩))).2.1 e.2 (jmps_mem.2 he)
    · rw [List.pairwise_iff_forall_sublist]
      intro a b hab
      have hle := List.pairwise_iff_forall_sublist.1 h2.2 hab
      have ha : a ∈ l := hab.subset (by simp)
      have hb : b ∈ l := hab.subset (by simp)
      rcases row_ways (h2.1 a ha) (h2.1 b hb) with h | h | h
      · exact .inl h
      · right
        refine ⟨h, ?_⟩
        have hs : [a.2, b.2].Sublist (jmps l a.1) := by
          have := (hab.filter (fun e => decide (e.1 = a.1))).map Prod.snd
          rw [h]
          unfold jmps
          simpa [h] using this
        exact List.pairwise_iff_forall_sublist.1 (mayJ_iff.1 (hj a.1 ((k2 _).2 ⟨a, ha, rfl⟩))).2.2 hs
      · have := h.2; have := cmpT_swap a.1 b.1; omega
  · rintro ⟨h1, h2, h3, h4⟩
    have hr : Rise l := by
      refine ⟨fun e he => (h2 e he).1, ?_⟩
      rw [List.pairwise_iff_forall_sublist]
      intro a b hab
      rcases List.pairwise_iff_forall_sublist.1 h3 hab with h | ⟨h, _⟩
      · have := h.2; omega
      · rw [h, cmpT_self (h2 b (hab.subset (by simp))).1]; omega
    refine ⟨h1, hr, fun g hg => ?_⟩
    rw [grp_eq hr] at hg
    obtain ⟨r, hrr, rfl⟩ := List.mem_map.1 hg
    simp only
    rw [mayJ_iff]
    refine ⟨h4 r hrr, fun j hj => (h2 _ (jmps_mem.1 hj)).2, ?_⟩
    unfold jmps Asc
    rw [List.pairwise_map, List.pairwise_filter]
    refine h3.imp ?_
    intro a b hab ha hb
    rw [decide_eq_true_iff] at ha hb
    rcases hab with h | ⟨_, h⟩
    · exact absurd (ha.trans hb.symm) (rlt_ne h)
    · exact h
theorem mayE_rise {l : List Ed} (h : mayE l = true) : Rise l := (mayE_iff.1 h).2.1
/-- A table. -/
def tabE (l : List Ed) : Bool := mayE l && (grp l).all fun g => decide (0 ≤ leV g.2)
end Go.Proofs.YtljkneajdndgjaaGreat
