/-
  A helper of ours: no claim of its own. Layer 19 (lex): tokens on lists of bytes: how long the token of a kind is that a text begins with, which one it is, the tokens of a text, and joined ones. No program in it.
-/
import Derived.Test.YtjkfkecabhcnfaaDoorMem
set_option linter.unusedVariables false
set_option linter.unusedSimpArgs false
namespace Go.Proofs.YtjkfkecabhcnfaaDoor
--BEGIN
abbrev Tk := Int × List UInt8
def isL (c : UInt8) : Bool := decide (97 ≤ c.toNat) && decide (c.toNat ≤ 122)
def isD (c : UInt8) : Bool := decide (48 ≤ c.toNat) && decide (c.toNat ≤ 57)
/-- How many bytes at the beginning belong. -/
def runN (p : Nat → UInt8 → Bool) : Nat → List UInt8 → Nat
  | _, [] => 0
  | k, c :: r => if p k c then runN p (k + 1) r + 1 else 0
def pName (k : Nat) (c : UInt8) : Bool := isL c || (decide (0 < k) && isD c)
def pDig (_ : Nat) (c : UInt8) : Bool := isD c
def pQuo (k : Nat) (c : UInt8) : Bool := decide (c = 39) == decide (k = 0)
def quoL (l : List UInt8) : Nat := if runN pQuo 0 l = 0 ∨ runN pQuo 0 l = l.length then 0 else runN pQuo 0 l + 1
def isS (c : UInt8) : Bool := [61, 60, 62, 43, 45, 42, 47, 37, 40, 41, 44].any (fun x => x == c)
def isS2 (c d : UInt8) : Bool := (c == 60 && (d == 62 || d == 61)) || (c == 62 && d == 61) || (c == 43 && d == 43)
def sgnL : List UInt8 → Nat
  | [] => 0
  | [c] => if isS c then 1 else 0
  | c :: d :: _ => if isS2 c d then 2 else if isS c then 1 else 0
theorem sgn1 (c : UInt8) : sgnL [c] = if isS c then 1 else 0 := rfl
theorem sgn2 (c d : UInt8) (r : List UInt8) : sgnL (c :: d :: r) = if isS2 c d then 2 else if isS c then 1 else 0 := rfl
/-- How long the token of a kind is that a text begins with: 0, if it begins with none. -/
def lenK (k : Int) (l : List UInt8) : Nat := if k = 1 then runN pName 0 l else if k = 2 then runN pDig 0 l else if k = 3 then quoL l else if k = 4 then sgnL l else 0
def mayT (t : Tk) : Bool := decide (t.2 ≠ []) && decide (lenK t.1 t.2 = t.2.length)
/-- The kind of token that a byte begins; 0: none. -/
def kindOf (c : UInt8) : Int := if isL c then 1 else if isD c then 2 else if c = 39 then 3 else if isS c then 4 else 0
theorem runN_le (p : Nat → UInt8 → Bool) : ∀ (l : List UInt8) (k : Nat), runN p k l ≤ l.length
  | [], _ => Nat.le_refl _
  | c :: r, k => by
    unfold runN
    have := runN_le p r (k + 1)
    split
    · simp only [List.length_cons]; omega
    · exact Nat.zero_le _
theorem quoL_le (l : List UInt8) : quoL l ≤ l.length := by
  unfold quoL
  have := runN_le pQuo l 0
  split <;> omega
theorem sgnL_le : ∀ l : List UInt8, sgnL l ≤ l.length
  | [] => Nat.le_refl _
  | [c] => by rw [sgn1]; split <;> simp
  | c :: d :: r => by rw [sgn2]; split
                      · simp
                      · split <;> simp
theorem lenK_le (k : Int) (l : List UInt8) : lenK k l ≤ l.length := by
  unfold lenK
  split
  · exact runN_le _ _ _
  split
  · exact runN_le _ _ _
  split
  · exact quoL_le l
  split
  · exact sgnL_le l
  · exact Nat.zero_le _
theorem lenK_nil (k : Int) : lenK k [] = 0 := Nat.le_zero.1 (lenK_le k [])
theorem isL_iff {c : UInt8} : isL c = true ↔ 97 ≤ c.toNat ∧ c.toNat ≤ 122 := by unfold isL; simp
theorem isD_iff {c : UInt8} : isD c = true ↔ 48 ≤ c.toNat ∧ c.toNat ≤ 57 := by unfold isD; simp
theorem isL_D {c : UInt8} (h : isL c = true) : isD c = false := by
  rw [isL_iff] at h
  cases e : isD c with
  | false => rfl
  | true => rw [isD_iff] at e; omega
theorem isS_L {c : UInt8} (h : isS c = true) : isL c = false ∧ isD c = false ∧ c ≠ 39 := by
  unfold isS at h
  simp only [List.any_cons, List.any_nil, Bool.or_false, Bool.or_eq_true, beq_iff_eq] at h
  rcases h with h | h | h | h | h | h | h | h | h | h | h <;> subst h <;> decide
theorem isS2_S {c d : UInt8} (h : isS2 c d = true) : isS c = true := by
  unfold isS2 at h
  simp only [Bool.or_eq_true, Bool.and_eq_true, beq_iff_eq] at h
  rcases h with (⟨h, _⟩ | ⟨h, _⟩) | ⟨h, _⟩ <;> subst h <;> decide
/-- The kind that begins with a byte is the only one. -/
theorem lenK_pos {k : Int} {c : UInt8} {r : List UInt8} (h : lenK k (c :: r) ≠ 0) : k = kindOf c ∧ kindOf c ≠ 0 := by
  unfold lenK at h
  unfold kindOf
  by_cases h1 : k = 1
  · subst h1
    rw [if_pos rfl] at h
    have hl : isL c = true := by
      unfold runN at h
      split at h
      · next hp => simpa [pName] using hp
      · exact absurd rfl h
    rw [if_pos hl]; exact ⟨rfl, by decide⟩
  rw [if_neg h1] at h
  by_cases h2 : k = 2
  · subst h2
    rw [if_pos rfl] at h
    have hd : isD c = true := by
      unfold runN at h
      split at h
      · next hp => exact hp
      · exact absurd rfl h
    have hl : isL c = false := by
      cases e : isL c with
      | false => rfl
      | true => rw [isL_D e] at hd; cases hd
    rw [if_neg (by rw [hl]; decide), if_pos hd]; exact ⟨rfl, by decide⟩
  rw [if_neg h2] at h
  by_cases h3 : k = 3
  · subst h3
    rw [if_pos rfl] at h
    have hc : c = 39 := by
      unfold quoL at h
      split at h
      · exact absurd rfl h
      · next hn =>
        have h0 : runN pQuo 0 (c :: r) ≠ 0 := fun e => hn (.inl e)
        unfold runN at h0
        split at h0
        · next hp => simpa [pQuo] using hp
        · exact absurd rfl h0
    subst hc
    refine ⟨?_, ?_⟩ <;> decide
  rw [if_neg h3] at h
  by_cases h4 : k = 4
  · subst h4
    rw [if_pos rfl] at h
    have hs : isS c = true := by
      cases r with
      | nil =>
        rw [sgn1] at h
        cases e : isS c with
        | true => rfl
        | false => rw [e] at h; simp at h
      | cons d r =>
        rw [sgn2] at h
        cases e : isS2 c d with
        | true => exact isS2_S e
        | false =>
          rw [e] at h
          cases e2 : isS c with
          | true => rfl
          | false => rw [e2] at h; simp at h
    obtain ⟨q1, q2, q3⟩ := isS_L hs
    rw [if_neg (by rw [q1]; decide), if_neg (by rw [q2]; decide), if_neg q3, if_pos hs]
    exact ⟨rfl, by decide⟩
  · rw [if_neg h4] at h; exact absurd rfl h
/-- A shorter text that is a token is not longer than the token that the text begins with. -/
theorem runN_take (p : Nat → UInt8 → Bool) : ∀ (l : List UInt8) (k n : Nat), runN p k (l.take n) = min n (runN p k l)
  | [], k, n => by simp [runN]
  | c :: r, k, 0 => by simp [runN]
  | c :: r, k, n + 1 => by
    rw [List.take_succ_cons]
    simp only [runN]
    split
    · rw [runN_take p r (k + 1) n]; omega
    · simp
theorem runN_app (p : Nat → UInt8 → Bool) (x : UInt8) (hx : ∀ k, 0 < k → p k x = false) : ∀ (l : List UInt8) (k : Nat) (r : List UInt8), 0 < k + l.length → runN p k (l ++ x :: r) = runN p k l
  | [], k, r, h => by
    simp only [List.nil_append, runN]
    rw [hx k (by simpa using h)]; rfl
  | c :: l, k, r, h => by
    simp only [List.cons_append, runN]
    rw [runN_app p x hx l (k + 1) r (by omega)]
theorem quo_all : ∀ (l : List UInt8) (k : Nat), 0 < k → runN pQuo k l = l.length → ∀ x ∈ l, x ≠ 39
  | [], _, _, _ => by simp
  | c :: r, k, hk, h => by
    simp only [runN] at h
    split at h
    · next hp =>
      have hc : c ≠ 39 := by
        rintro rfl
        have : k = 0 := by simpa [pQuo] using hp
        omega
      intro x hx
      rcases List.mem_cons.1 hx with rfl | hx
      · exact hc
      · exact quo_all r (k + 1) (by omega) (by simpa using h) x hx
    · simp at h
theorem quo_run : ∀ (l : List UInt8) (k : Nat) (r : List UInt8), 0 < k → (∀ x ∈ l, x ≠ 39) → runN pQuo k (l ++ 39 :: r) = l.length
  | [], k, r, hk, _ => by
    simp only [List.nil_append, runN]
    rw [if_neg (by simp [pQuo]; omega)]; rfl
  | c :: l, k, r, hk, h => by
    simp only [List.cons_append, runN]
    have hc := h c (by simp)
    rw [if_pos (by simp [pQuo, hc]; omega), quo_run l (k + 1) r (by omega) (fun x hx => h x (by simp [hx]))]; rfl
theorem quo_stop : ∀ (l : List UInt8) (k : Nat), 0 < k → runN pQuo k l ≠ l.length → ∃ m r, l = m ++ 39 :: r ∧ runN pQuo k l = m.length ∧ ∀ x ∈ m, x ≠ 39
  | [], _, _, h => by simp [runN] at h
  | c :: l, k, hk, h => by
    simp only [runN] at h ⊢
    by_cases hp : pQuo k c = true
    · rw [if_pos hp] at h ⊢
      obtain ⟨m, r, rfl, e, hm⟩ := quo_stop l (k + 1) (by omega) (by intro e; exact h (by rw [e]; rfl))
      have hc : c ≠ 39 := by
        rintro rfl
        have : k = 0 := by simpa [pQuo] using hp
        omega
      refine ⟨c :: m, r, rfl, by rw [e]; rfl, fun x hx => ?_⟩
      rcases List.mem_cons.1 hx with rfl | hx
      · exact hc
      · exact hm x hx
    · have hc : c = 39 := by
        have : ¬ (c ≠ 39) := by
          intro hne
          apply hp
          simp [pQuo, hne]; omega
        exact Classical.not_not.1 this
      subst hc
      exact ⟨[], l, rfl, by rw [if_neg hp]; rfl, by simp⟩
/-- What a quote is. -/
theorem quoL_iff (l : List UInt8) (n : Nat) (hn : n ≠ 0) : quoL l = n ↔ ∃ m r, l = 39 :: (m ++ 39 :: r) ∧ (∀ x ∈ m, x ≠ 39) ∧ n = m.length + 2 := by
  constructor
  · intro h
    unfold quoL at h
    split at h
    · exact absurd h.symm hn
    · next hne =>
      cases l with
      | nil => exact absurd (.inl rfl) hne
      | cons c r =>
        simp only [runN] at hne h
        by_cases hp : pQuo 0 c = true
        · rw [if_pos hp] at hne h
          have hc : c = 39 := by simpa [pQuo] using hp
          subst hc
          obtain ⟨m, q, rfl, e, hm⟩ := quo_stop r 1 (by omega) (by intro e; exact hne (.inr (by rw [e]; rfl)))
          exact ⟨m, q, rfl, hm, by rw [e] at h; omega⟩
        · rw [if_neg hp] at hne; exact absurd (.inl rfl) hne
  · rintro ⟨m, r, rfl, hm, rfl⟩
    have e : runN pQuo 0 (39 :: (m ++ 39 :: r)) = m.length + 1 := by
      simp only [runN]
      rw [if_pos (by decide), quo_run m 1 r (by omega) hm]
    unfold quoL
    rw [if_neg (by rw [e]; simp), e]
theorem quoL_take (l : List UInt8) (n : Nat) (hn : n ≤ l.length) (h : quoL (l.take n) ≠ 0) : quoL l = quoL (l.take n) := by
  obtain ⟨m, r, e, hm, hl⟩ := (quoL_iff _ _ h).1 rfl
  rw [hl]
  refine (quoL_iff _ _ (by omega)).2 ⟨m, r ++ l.drop n, ?_, hm, rfl⟩
  have h3 := (List.take_append_drop n l).symm
  rw [e] at h3
  exact h3.trans (by simp)
theorem quoL_back (l : List UInt8) (h : quoL l ≠ 0) : quoL (l.take (quoL l)) = quoL l := by
  obtain ⟨m, r, e, hm, hl⟩ := (quoL_iff _ _ h).1 rfl
  rw [hl]
  refine (quoL_iff _ _ (by omega)).2 ⟨m, [], ?_, hm, rfl⟩
  rw [e]
  have : (39 :: (m ++ 39 :: r)).take (m.length + 2) = 39 :: ((m ++ 39 :: r).take (m.length + 1)) := rfl
  rw [this, List.take_append]
  simp
  exact List.take_of_length_le (by omega)
theorem sgnL_pos {c : UInt8} {r : List UInt8} (h : isS c = true) : sgnL (c :: r) ≠ 0 := by
  cases r with
  | nil => rw [sgn1, if_pos h]; decide
  | cons d r => rw [sgn2, if_pos h]; split <;> decide
theorem sgnL_two (l : List UInt8) : sgnL l ≤ 2 := by
  match l with
  | [] => simp [sgnL]
  | [c] => rw [sgn1]; split <;> omega
  | c :: d :: r =>
    rw [sgn2]; split
    · omega
    · split <;> omega
/-- A token that a text begins with, as a text of its own. -/
theorem lenK_back (k : Int) (l : List UInt8) : lenK k (l.take (lenK k l)) = lenK k l := by
  by_cases h0 : lenK k l = 0
  · rw [h0, List.take_zero]; exact lenK_nil k
  unfold lenK at h0 ⊢
  by_cases h1 : k = 1
  · subst h1; simp only [if_true] at *; rw [runN_take, Nat.min_self]
  rw [if_neg h1] at h0
  simp only [if_neg h1]
  by_cases h2 : k = 2
  · subst h2; simp only [if_true] at *; rw [runN_take, Nat.min_self]
  rw [if_neg h2] at h0
  simp only [if_neg h2]
  by_cases h3 : k = 3
  · subst h3; simp only [if_true] at *; exact quoL_back l h0
  rw [if_neg h3] at h0
  simp only [if_neg h3]
  by_cases h4 : k = 4
  · subst h4
    simp only [if_true] at *
    match l, h0 with
    | [c], h0 =>
      cases e : isS c
      · simp [sgnL, e] at h0
      · simp [sgnL, e]
    | c :: d :: r, h0 =>
      cases e : isS2 c d
      · cases e2 : isS c
        · simp [sgnL, e, e2] at h0
        · simp [sgnL, e, e2]
      · simp [sgnL, e]
  · rw [if_neg h4] at h0; exact absurd rfl h0
/-- A token that lies at the beginning of a text is not longer than the token with which the text begins. -/
theorem lenK_max (k : Int) (l : List UInt8) (n : Nat) (hn : n ≤ l.length) (h0 : n ≠ 0) (h : lenK k (l.take n) = n) : n ≤ lenK k l ∧ lenK k l ≠ 0 := by
  suffices n ≤ lenK k l from ⟨this, by omega⟩
  unfold lenK at h ⊢
  by_cases h1 : k = 1
  · subst h1; simp only [if_true] at *; rw [runN_take] at h; omega
  simp only [if_neg h1] at *
  by_cases h2 : k = 2
  · subst h2; simp only [if_true] at *; rw [runN_take] at h; omega
  simp only [if_neg h2] at *
  by_cases h3 : k = 3
  · subst h3; simp only [if_true] at *
    have := quoL_take l n hn (by omega)
    omega
  simp only [if_neg h3] at *
  by_cases h4 : k = 4
  · subst h4
    simp only [if_true] at *
    match l, n, hn, h0, h with
    | [], n, hn, h0, _ => exact absurd (Nat.le_zero.1 (by simpa using hn)) h0
    | c :: r, 1, _, _, h =>
      have hs : isS c = true := by
        cases e : isS c
        · simp [sgnL, e] at h
        · rfl
      have := sgnL_pos (r := r) hs
      omega
    | c :: d :: r, n + 2, _, _, h =>
      have h2 := sgnL_two ((c :: d :: r).take (n + 2))
      obtain rfl : n = 0 := by omega
      cases e : isS2 c d
      · cases e2 : isS c <;> simp [sgnL, e, e2] at h
      · simp [sgnL, e]
  · rw [if_neg h4] at h; omega
/-- The token that a text begins with, which is not empty and begins with no blank: 0 long, if none. -/
def tokK (l : List UInt8) : Int := match l with | [] => 0 | c :: _ => kindOf c
def tokN (l : List UInt8) : Nat := lenK (tokK l) l
theorem lenK_zero : ∀ l : List UInt8, lenK 0 l = 0 := by intro l; unfold lenK; simp
theorem lenK_tok (k : Int) (l : List UInt8) : lenK k l = if k = tokK l then tokN l else 0 := by
  cases l with
  | nil => rw [lenK_nil]; unfold tokN; rw [lenK_nil]; simp
  | cons c r =>
    split
    · next h => rw [h]; rfl
    · next h =>
      by_cases h0 : lenK k (c :: r) = 0
      · exact h0
      · exact absurd (lenK_pos h0).1 h
theorem tokN_le (l : List UInt8) : tokN l ≤ l.length := lenK_le _ _
def skipB (l : List UInt8) : List UInt8 := l.dropWhile (fun c => c == 32)
theorem skipB_le (l : List UInt8) : (skipB l).length ≤ l.length := by
  unfold skipB
  induction l with
  | nil => exact Nat.le_refl _
  | cons c r ih =>
    rw [List.dropWhile_cons]
    split
    · simp only [List.length_cons]; omega
    · exact Nat.le_refl _
theorem skipB_blank (r : List UInt8) : skipB (32 :: r) = skipB r := by unfold skipB; rw [List.dropWhile_cons]; simp
theorem skipB_other {c : UInt8} (r : List UInt8) (h : c ≠ 32) : skipB (c :: r) = c :: r := by unfold skipB; rw [List.dropWhile_cons]; simp [h]
theorem skipB_head {l : List UInt8} {c : UInt8} {r : List UInt8} (h : skipB l = c :: r) : c ≠ 32 := by
  induction l with
  | nil => cases h
  | cons d t ih =>
    by_cases hd : d = 32
    · subst hd; rw [skipB_blank] at h; exact ih h
    · rw [skipB_other _ hd] at h; injection h with h1 _; rw [← h1]; exact hd
/-- The tokens of a text, with as many steps as are given. -/
def spF : Nat → List UInt8 → Except Int (List Tk)
  | 0, _ => .ok []
  | n + 1, l => match skipB l with
    | [] => .ok []
    | c :: r => if tokN (c :: r) = 0 then .error (if c = 39 then 5 else 24)
      else match spF n ((c :: r).drop (tokN (c :: r))) with
        | .error e => .error e
        | .ok t => .ok ((kindOf c, (c :: r).take (tokN (c :: r))) :: t)
theorem spF_more : ∀ (n m : Nat) (l : List UInt8), l.length < n → l.length < m → spF n l = spF m l
  | 0, _, _, h, _ => by omega
  | _, 0, _, _, h => by omega
  | n + 1, m + 1, l, hn, hm => by
    unfold spF
    cases e : skipB l with
    | nil => rfl
    | cons c r =>
      simp only
      by_cases h0 : tokN (c :: r) = 0
      · rw [if_pos h0, if_pos h0]
      · rw [if_neg h0, if_neg h0]
        have h1 := skipB_le l
        rw [e] at h1
        have h2 : ((c :: r).drop (tokN (c :: r))).length < (c :: r).length := by rw [List.length_drop]; simp only [List.length_cons]; omega
        rw [spF_more n m _ (by omega) (by omega)]
def spl (l : List UInt8) : Except Int (List Tk) := spF (l.length + 1) l
theorem spl_nil : spl [] = .ok [] := rfl
theorem spl_blank (r : List UInt8) : spl (32 :: r) = spl r := by
  unfold spl
  rw [spF, skipB_blank]
  conv => rhs; rw [spF]
  cases e : skipB r with
  | nil => rfl
  | cons c t =>
    simp only
    by_cases h0 : tokN (c :: t) = 0
    · rw [if_pos h0, if_pos h0]
    · rw [if_neg h0, if_neg h0]
      have h1 := skipB_le r
      rw [e] at h1
      have h2 : ((c :: t).drop (tokN (c :: t))).length < (c :: t).length := by rw [List.length_drop]; simp only [List.length_cons]; omega
      rw [spF_more (32 :: r).length r.length _ (by simp only [List.length_cons]; omega) (by omega)]
theorem spl_skip (l : List UInt8) : spl (skipB l) = spl l := by
  induction l with
  | nil => rfl
  | cons c r ih =>
    by_cases hc : c = 32
    · subst hc; rw [skipB_blank, spl_blank, ih]
    · rw [skipB_other _ hc]
theorem spl_none {c : UInt8} {r : List UInt8} (hc : c ≠ 32) (h : tokN (c :: r) = 0) : spl (c :: r) = .error (if c = 39 then 5 else 24) := by
  unfold spl spF
  rw [skipB_other _ hc]
  simp only [h, if_true]
theorem spl_tok {c : UInt8} {r : List UInt8} (hc : c ≠ 32) (h : tokN (c :: r) ≠ 0) : spl (c :: r) = match spl ((c :: r).drop (tokN (c :: r))) with
    | .error e => .error e
    | .ok t => .ok ((kindOf c, (c :: r).take (tokN (c :: r))) :: t) := by
  unfold spl
  rw [spF, skipB_other _ hc]
  simp only
  rw [if_neg h]
  rw [spF_more (c :: r).length (((c :: r).drop (tokN (c :: r))).length + 1) _ (by rw [List.length_drop]; simp only [List.length_cons]; omega) (by omega)]
/-- What of a text is still to be split, behind what was. -/
def afterT (acc : List Tk) (x : Except Int (List Tk)) : Except Int (List Tk) := match x with
  | .error e => .error e
  | .ok t => .ok (acc ++ t)
theorem after_tok {c : UInt8} {r : List UInt8} (acc : List Tk) (hc : c ≠ 32) (h : tokN (c :: r) ≠ 0) : afterT acc (spl (c :: r)) = afterT (acc ++ [(kindOf c, (c :: r).take (tokN (c :: r)))]) (spl ((c :: r).drop (tokN (c :: r)))) := by
  rw [spl_tok hc h]
  cases spl ((c :: r).drop (tokN (c :: r))) with
  | error e => rfl
  | ok t => simp [afterT]
theorem after_nil (acc : List Tk) : afterT acc (spl []) = .ok acc := by rw [spl_nil]; simp [afterT]
theorem after_start (l : List UInt8) : afterT [] (spl l) = spl l := by cases spl l <;> simp [afterT]
/-- Texts, with blanks between. -/
def joinB : List (List UInt8) → List UInt8
  | [] => []
  | [a] => a
  | a :: b :: r => a ++ 32 :: joinB (b :: r)
theorem joinB_cons (a : List UInt8) {r : List (List UInt8)} (h : r ≠ []) : joinB (a :: r) = a ++ 32 :: joinB r := by
  cases r with
  | nil => exact absurd rfl h
  | cons b r => rfl
/-- A token ahead of a blank, or at the end. -/
theorem mayT_iff {t : Tk} : mayT t = true ↔ t.2 ≠ [] ∧ lenK t.1 t.2 = t.2.length := by unfold mayT; simp
theorem lenK_ahead (k : Int) (a r : List UInt8) (ha : a ≠ []) (h : lenK k a = a.length) : lenK k (a ++ 32 :: r) = a.length := by
  have hpos : 0 < a.length := List.length_pos_iff.2 ha
  unfold lenK at h ⊢
  by_cases h1 : k = 1
  · subst h1; simp only [if_true] at *
    rw [runN_app pName 32 (by intro k hk; simp [pName, isL, isD]) a 0 r (by omega)]; exact h
  simp only [if_neg h1] at *
  by_cases h2 : k = 2
  · subst h2; simp only [if_true] at *
    rw [runN_app pDig 32 (by intro k hk; simp [pDig, isD]) a 0 r (by omega)]; exact h
  simp only [if_neg h2] at *
  by_cases h3 : k = 3
  · subst h3; simp only [if_true] at *
    obtain ⟨m, q, e, hm, hl⟩ := (quoL_iff _ _ (by omega)).1 h
    refine (quoL_iff _ _ (by omega)).2 ⟨m, q ++ 32 :: r, ?_, hm, hl⟩
    rw [e]; simp
  simp only [if_neg h3] at *
  by_cases h4 : k = 4
  · subst h4
    simp only [if_true] at *
    match a, h, hpos with
    | [c], h, _ =>
      have hs : isS c = true := by
        cases e : isS c
        · simp [sgnL, e] at h
        · rfl
      have hn : isS2 c 32 = false := by unfold isS2; simp
      simp [sgnL, hs, hn]
    | [c, d], h, _ =>
      have hs : isS2 c d = true := by
        cases e : isS2 c d
        · cases e2 : isS c <;> simp [sgnL, e, e2] at h
        · rfl
      simp [sgnL, hs]
    | c :: d :: e :: q, h, _ =>
      have := sgnL_two (c :: d :: e :: q)
      simp only [List.length_cons] at h; omega
  · rw [if_neg h4] at h; omega
theorem tok_first {t : Tk} (h : mayT t = true) : ∃ c r, t.2 = c :: r ∧ t.1 = kindOf c ∧ c ≠ 32 := by
  obtain ⟨k, a⟩ := t
  obtain ⟨h1, h2⟩ := mayT_iff.1 h
  cases a with
  | nil => exact absurd rfl h1
  | cons c r =>
    have hp := lenK_pos (k := k) (c := c) (r := r) (by simp only at h2; rw [h2]; simp)
    refine ⟨c, r, rfl, hp.1, ?_⟩
    rintro rfl
    exact hp.2 (by decide)
/-- Joined tokens are split into the same ones. -/
theorem spl_join : ∀ (l : List Tk), (∀ t ∈ l, mayT t = true) → spl (joinB (l.map (·.2))) = .ok l
  | [], _ => rfl
  | [t], h => by
    have ht := h t (by simp)
    obtain ⟨c, r, e, ek, hc⟩ := tok_first ht
    obtain ⟨-, h2⟩ := mayT_iff.1 ht
    obtain ⟨k, a⟩ := t
    simp only at e ek h2
    subst e
    subst ek
    have hn : tokN (c :: r) = (c :: r).length := h2
    show spl (c :: r) = _
    rw [spl_tok hc (by rw [hn]; simp), hn, List.drop_length, spl_nil, List.take_length]
  | t :: u :: l, h => by
    have ht := h t (by simp)
    obtain ⟨c, r, e, ek, hc⟩ := tok_first ht
    obtain ⟨h1, h2⟩ := mayT_iff.1 ht
    obtain ⟨k, a⟩ := t
    simp only at e ek h2 h1
    subst e
    subst ek
    have ih := spl_join (u :: l) (fun x hx => h x (by simp [hx]))
    have hn : tokN (c :: (r ++ 32 :: joinB ((u :: l).map (·.2)))) = (c :: r).length := lenK_ahead (kindOf c) (c :: r) _ (by simp) h2
    show spl ((c :: r) ++ 32 :: joinB ((u :: l).map (·.2))) = _
    rw [List.cons_append, spl_tok hc (by rw [hn]; simp), hn]
    have ed : (c :: (r ++ 32 :: joinB ((u :: l).map (·.2)))).drop (c :: r).length = 32 :: joinB ((u :: l).map (·.2)) := by
      rw [← List.cons_append]; exact List.drop_left' rfl
    have et : (c :: (r ++ 32 :: joinB ((u :: l).map (·.2)))).take (c :: r).length = c :: r := by
      rw [← List.cons_append]; exact List.take_left' rfl
    rw [ed, et, spl_blank, ih]
/-- What is split are tokens. -/
theorem spF_may : ∀ (n : Nat) (l : List UInt8) (t : List Tk), spF n l = .ok t → ∀ x ∈ t, mayT x = true
  | 0, l, t, h, x, hx => by unfold spF at h; injection h with h; subst h; cases hx
  | n + 1, l, t, h, x, hx => by
    unfold spF at h
    cases e : skipB l with
    | nil => rw [e] at h; injection h with h; subst h; cases hx
    | cons c r =>
      rw [e] at h
      simp only at h
      by_cases h0 : tokN (c :: r) = 0
      · rw [if_pos h0] at h; cases h
      · rw [if_neg h0] at h
        cases e2 : spF n ((c :: r).drop (tokN (c :: r))) with
        | error z => rw [e2] at h; cases h
        | ok u =>
          rw [e2] at h
          injection h with h
          subst h
          rcases List.mem_cons.1 hx with rfl | hx
          · have hle := tokN_le (c :: r)
            have hlen : ((c :: r).take (tokN (c :: r))).length = tokN (c :: r) := by rw [List.length_take]; omega
            refine mayT_iff.2 ⟨?_, ?_⟩
            · intro e3
              simp only at e3
              rw [e3] at hlen
              simp at hlen; omega
            · show lenK (kindOf c) ((c :: r).take (tokN (c :: r))) = ((c :: r).take (tokN (c :: r))).length
              rw [hlen]
              exact lenK_back (kindOf c) (c :: r)
          · exact spF_may n _ u e2 x hx
theorem spl_may {l : List UInt8} {t : List Tk} (h : spl l = .ok t) : ∀ x ∈ t, mayT x = true := spF_may _ l t h
--END
end Go.Proofs.YtjkfkecabhcnfaaDoor
