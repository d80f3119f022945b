/-
  A helper of ours: no claim of its own. Layer 3 (bin): what is read of bytes, as plain functions on lists. No program in it.
-/
import Derived.Test.YtoghgjgaolinaaaMem
import Derived.Test.YtoghgjgaolinaaaBinA
namespace Go.Proofs.Ytoghgjgaolinaaa

/-- How many bytes there are ahead of the first one that no other follows. -/
def lead : List UInt8 → Nat
  | [] => 0
  | c :: r => if 128 ≤ c.toNat then lead r + 1 else 0
def gval : List UInt8 → Nat
  | [] => 0
  | c :: r => c.toNat % 128 + 128 * gval r
def parE (most : Nat) (l : List UInt8) : Int :=
  if most ≤ lead l then 4 else if l.length ≤ lead l then 5 else if lead l = 9 ∧ 1 < (l.getD (lead l) 0).toNat then 4 else if 0 < lead l ∧ (l.getD (lead l) 0).toNat = 0 then 4 else 0
def parV (most : Nat) (l : List UInt8) : Nat := if parE most l = 0 then gval (l.take (lead l + 1)) else 0
def parR (most : Nat) (l : List UInt8) : List UInt8 := if parE most l = 0 then l.drop (lead l + 1) else []

/-- The first k bytes are each followed by another one. -/
def Led (l : List UInt8) (k : Nat) : Prop := k ≤ l.length ∧ ∀ j c, j < k → l[j]? = some c → 128 ≤ c.toNat
theorem Led.zero (l : List UInt8) : Led l 0 := ⟨Nat.zero_le _, fun _ _ h => absurd h (by omega)⟩
theorem Led.succ {l : List UInt8} {k : Nat} (h : Led l k) {c : UInt8} (hc : l[k]? = some c) (h1 : 128 ≤ c.toNat) : Led l (k + 1) := by
  have hk : k < l.length := by
    rcases Nat.lt_or_ge k l.length with h | h
    · exact h
    · rw [List.getElem?_eq_none h] at hc; cases hc
  refine ⟨hk, fun j d hj hd => ?_⟩
  rcases (by omega : j < k ∨ j = k) with h2 | rfl
  · exact h.2 j d h2 hd
  · rw [hc] at hd; cases hd; exact h1
theorem Led.lead_le : ∀ {l : List UInt8} {k : Nat}, Led l k → k ≤ lead l
  | [], k, h => by have := h.1; simp at this; omega
  | c :: r, 0, _ => Nat.zero_le _
  | c :: r, k + 1, h => by
    have h0 := h.2 0 c (by omega) rfl
    have : Led r k := ⟨by have := h.1; simp at this; omega, fun j d hj hd => h.2 (j + 1) d (by omega) (by simpa using hd)⟩
    have := this.lead_le
    simp [lead, h0]; omega
theorem lead_len : ∀ l : List UInt8, lead l ≤ l.length
  | [] => Nat.le_refl _
  | c :: r => by have := lead_len r; unfold lead; split <;> simp <;> omega
theorem Led.lead_eq : ∀ {l : List UInt8} {k : Nat}, Led l k → (∀ c, l[k]? = some c → c.toNat < 128) → lead l = k
  | [], k, h, _ => by have := h.1; simp at this; simp [lead, this]
  | c :: r, 0, _, hn => by have := hn c rfl; simp [lead]; omega
  | c :: r, k + 1, h, hn => by
    have h0 := h.2 0 c (by omega) rfl
    have : Led r k := ⟨by have := h.1; simp at this; omega, fun j d hj hd => h.2 (j + 1) d (by omega) (by simpa using hd)⟩
    have := this.lead_eq (fun d hd => hn d (by simpa using hd))
    simp [lead, h0, this]
theorem gval_lt : ∀ l : List UInt8, gval l < 128 ^ l.length
  | [] => by simp [gval]
  | c :: r => by have := gval_lt r; simp only [gval, List.length_cons, Nat.pow_succ]; omega
theorem gval_snoc : ∀ (l : List UInt8) (c : UInt8), gval (l ++ [c]) = gval l + c.toNat % 128 * 128 ^ l.length
  | [], c => by simp [gval]
  | d :: r, c => by
    simp only [List.cons_append, gval, gval_snoc r c, List.length_cons, Nat.pow_succ, Nat.mul_add]
    rw [Nat.mul_left_comm 128 (c.toNat % 128), Nat.mul_comm 128 (128 ^ r.length)]; omega
theorem gval_take {l : List UInt8} {k : Nat} {c : UInt8} (hc : l[k]? = some c) : gval (l.take (k + 1)) = gval (l.take k) + c.toNat % 128 * 128 ^ k := by
  have hk : k < l.length := by
    rcases Nat.lt_or_ge k l.length with h | h
    · exact h
    · rw [List.getElem?_eq_none h] at hc; cases hc
  rw [List.take_add_one, hc]
  simp only [Option.toList_some]
  rw [gval_snoc, List.length_take, Nat.min_eq_left (by omega)]
theorem gval_take_lt (l : List UInt8) (k : Nat) : gval (l.take k) < 128 ^ k :=
  Nat.lt_of_lt_of_le (gval_lt _) (Nat.pow_le_pow_right (by omega) (by simp; omega))

section
variable {l : List UInt8} {k most : Nat}
theorem par_most (h : Led l k) (hk : k = most) : parE most l = 4 := by have := h.lead_le; unfold parE; rw [if_pos (by omega)]
theorem par_end (h : Led l k) (hk : k < most) (hl : l.length = k) : parE most l = 5 := by
  have := h.lead_le; have := lead_len l
  unfold parE; rw [if_neg (by omega), if_pos (by omega)]
theorem par_at (h : Led l k) (hk : k < most) {c : UInt8} (hc : l[k]? = some c) (h1 : c.toNat < 128) :
    parE most l = (if k = 9 ∧ 1 < c.toNat then 4 else if 0 < k ∧ c.toNat = 0 then 4 else 0) ∧ lead l = k := by
  have e := h.lead_eq (fun d hd => by rw [hc] at hd; cases hd; exact h1)
  have hk' : k < l.length := by
    rcases Nat.lt_or_ge k l.length with h | h
    · exact h
    · rw [List.getElem?_eq_none h] at hc; cases hc
  refine ⟨?_, e⟩
  unfold parE; rw [e, if_neg (by omega), if_neg (by omega), List.getD_eq_getElem?_getD, hc]; rfl
theorem par_ok (h : Led l k) (hk : k < most) {c : UInt8} (hc : l[k]? = some c) (h1 : c.toNat < 128) (h2 : ¬ (k = 9 ∧ 1 < c.toNat)) (h3 : ¬ (0 < k ∧ c.toNat = 0)) :
    parE most l = 0 ∧ parV most l = gval (l.take (k + 1)) ∧ parR most l = l.drop (k + 1) := by
  obtain ⟨e, e2⟩ := par_at h hk hc h1
  rw [if_neg h2, if_neg h3] at e
  exact ⟨e, by unfold parV; rw [if_pos e, e2], by unfold parR; rw [if_pos e, e2]⟩
theorem par_no (h : parE most l ≠ 0) : parV most l = 0 ∧ parR most l = [] := ⟨by unfold parV; rw [if_neg h], by unfold parR; rw [if_neg h]⟩
end
/-- The number of a place among those of both signs. -/
def unz (n : Nat) : Int := if n % 2 = 1 then -1 - (n / 2 : Nat) else (n / 2 : Nat)

/-- What a reader has left, and its first error, behind each element. -/
def numSt (most : Nat) (l : List UInt8) (e : Int) : List UInt8 × Int := if e = 0 then (parR most l, parE most l) else (l, e)
def numVal (most : Nat) (l : List UInt8) (e : Int) : Nat := if e = 0 then parV most l else 0
def byteSt (l : List UInt8) (e : Int) : List UInt8 × Int := if e = 0 then (if l = [] then ([], 5) else (l.tail, 0)) else (l, e)
def byteVal (l : List UInt8) (e : Int) : UInt8 := if e = 0 then l.headD 0 else 0
def textE (most : Int) (l : List UInt8) (e : Int) : Int :=
  if (numSt 9 l e).2 ≠ 0 then (numSt 9 l e).2 else if most < (numVal 9 l e : Int) then 6 else if (numSt 9 l e).1.length < numVal 9 l e then 5 else 0
def textSt (most : Int) (l : List UInt8) (e : Int) : List UInt8 × Int :=
  if textE most l e = 0 then ((numSt 9 l e).1.drop (numVal 9 l e), 0) else if e = 0 then ([], textE most l e) else (l, e)
def textVal (most : Int) (l : List UInt8) (e : Int) : List UInt8 := if textE most l e = 0 then (numSt 9 l e).1.take (numVal 9 l e) else []
/-- What is left of the bytes, whether they are a number or not. -/
def parL (most : Nat) (l : List UInt8) : List UInt8 := l.drop (if most ≤ lead l then most else lead l + 1)
/-- What a reader is behind an error. -/
def failSt (l : List UInt8) (e x : Int) : List UInt8 × Int := if e = 0 ∧ x ≠ 0 then ([], x) else (l, e)
theorem failSt_ok (l : List UInt8) (e : Int) : failSt l e 0 = (l, e) := by unfold failSt; rw [if_neg (fun h => h.2 rfl)]
theorem failSt_new (l : List UInt8) {x : Int} (h : x ≠ 0) : failSt l 0 x = ([], x) := by unfold failSt; rw [if_pos ⟨rfl, h⟩]
theorem failSt_old (l : List UInt8) {e : Int} (x : Int) (h : e ≠ 0) : failSt l e x = (l, e) := by unfold failSt; rw [if_neg (fun k => h k.1)]
theorem drop_at {l r : List UInt8} {k : Nat} {c : UInt8} (h : l.drop k = c :: r) : l[k]? = some c ∧ l.drop (k + 1) = r ∧ k < l.length := by
  have h1 : (l.drop k)[0]? = some c := by rw [h]; rfl
  rw [List.getElem?_drop] at h1
  refine ⟨by simpa using h1, ?_, ?_⟩
  · rw [← List.drop_drop, h]; rfl
  · rcases Nat.lt_or_ge k l.length with h2 | h2
    · exact h2
    · rw [List.drop_eq_nil_of_le h2] at h; cases h
theorem drop_nil {l : List UInt8} {k : Nat} (h : l.drop k = []) (hk : k ≤ l.length) : l.length = k := by
  have := congrArg List.length h; simp at this; omega
section
variable {l : List UInt8} {k : Nat} {c : UInt8}
theorem sh_eq (k : Nat) : (2 : Int) ^ (7 * k) = ((128 ^ k : Nat) : Int) := by
  rw [Int.pow_mul]; simp
theorem sh_in (hk : k ≤ 9) (h9 : k = 9 → c.toNat % 128 ≤ 1) : IntKind.u64.wrap ((c.toNat : Int) % 128 * 2 ^ (7 * k)) = ((c.toNat % 128 * 128 ^ k : Nat) : Int) ∧ c.toNat % 128 * 128 ^ k < 18446744073709551616 := by
  have hlt : c.toNat % 128 * 128 ^ k < 18446744073709551616 := by
    rcases (by omega : k ≤ 8 ∨ k = 9) with h | rfl
    · have h1 : 128 ^ k ≤ 128 ^ 8 := Nat.pow_le_pow_right (by omega) h
      have h2 := Nat.mul_le_mul (show c.toNat % 128 ≤ 127 by omega) h1
      omega
    · have := h9 rfl
      have h2 := Nat.mul_le_mul_right (128 ^ 9) this
      omega
  refine ⟨?_, hlt⟩
  rw [sh_eq, show ((c.toNat : Int) % 128 * ((128 ^ k : Nat) : Int)) = ((c.toNat % 128 * 128 ^ k : Nat) : Int) by simp, IntKind.wrap_u64]
  omega
theorem sh_or (hc : l[k]? = some c) (hk : k ≤ 9) (h9 : k = 9 → c.toNat % 128 ≤ 1) : bits BinOp.or IntKind.u64 (gval (l.take k) : Int) (IntKind.u64.wrap ((c.toNat : Int) % 128 * 2 ^ (7 * k))) = (gval (l.take (k + 1)) : Int) := by
  obtain ⟨e, hlt⟩ := sh_in hk h9
  have hg := gval_take_lt l k
  rw [e, gval_take hc, or_u64_add _ _ (7 * k) (by omega) (by omega) (by rw [sh_eq]; exact_mod_cast hg) (by omega) (by rw [sh_eq]; exact_mod_cast Nat.mul_mod_left _ _) (by omega)]
  simp
theorem sh_back (hk : k ≤ 9) (h9 : k = 9 → c.toNat % 128 ≤ 1) : (IntKind.u64.wrap ((c.toNat : Int) % 128 * 2 ^ (7 * k)) / 2 ^ (7 * k) != (c.toNat : Int) % 128) = false := by
  obtain ⟨e, _⟩ := sh_in hk h9
  rw [e, sh_eq, bne_eq_false_iff_eq, ← Int.natCast_ediv, Nat.mul_div_cancel _ (Nat.pow_pos (by omega))]
  simp
theorem sh_beyond (hk : k = 9) (h1 : 1 < c.toNat) (h2 : c.toNat < 128) : (IntKind.u64.wrap ((c.toNat : Int) % 128 * 2 ^ (7 * k)) / 2 ^ (7 * k) != (c.toNat : Int) % 128) = true := by
  subst hk
  rw [bne_iff_ne, IntKind.wrap_u64]
  intro h
  have e : (2 : Int) ^ (7 * 9) = 9223372036854775808 := by decide
  rw [e] at h
  omega
end
theorem parE_ne {most : Nat} {l : List UInt8} (h : parE most l = 0) : lead l < most ∧ lead l < l.length ∧ (lead l = 9 → (l.getD (lead l) 0).toNat ≤ 1) := by
  unfold parE at h
  split at h
  · cases h
  split at h
  · cases h
  split at h
  · cases h
  · exact ⟨by omega, by omega, fun e => by omega⟩
theorem parL_ok {most : Nat} {l : List UInt8} (h : parE most l = 0) : parL most l = parR most l := by
  have := parE_ne h
  unfold parL parR; rw [if_neg (by omega), if_pos h]
theorem parV_nine (l : List UInt8) : (parV 9 l : Int) ≤ 9223372036854775807 := by
  unfold parV
  split
  · rename_i h
    have h1 := parE_ne h
    have h2 := gval_take_lt l (lead l + 1)
    have h3 : 128 ^ (lead l + 1) ≤ 128 ^ 9 := Nat.pow_le_pow_right (by omega) (by omega)
    omega
  · omega
theorem parV_ten (l : List UInt8) : (parV 10 l : Int) ≤ 18446744073709551615 := by
  unfold parV
  split
  · rename_i h
    have h1 := parE_ne h
    rcases (by omega : lead l ≤ 8 ∨ lead l = 9) with h4 | h4
    · have h2 := gval_take_lt l (lead l + 1)
      have h3 : 128 ^ (lead l + 1) ≤ 128 ^ 9 := Nat.pow_le_pow_right (by omega) (by omega)
      omega
    · have h5 := h1.2.2 h4
      have h6 : l[lead l]? = some (l.getD (lead l) 0) := by rw [List.getD_eq_getElem?_getD, List.getElem?_eq_getElem h1.2.1]; rfl
      rw [gval_take h6, h4]
      rw [h4] at h5
      have h2 := gval_take_lt l 9
      have h7 : (l.getD 9 0).toNat % 128 ≤ 1 := by omega
      have h8 := Nat.mul_le_mul_right (128 ^ 9) h7
      omega
  · omega
theorem par_empty (most : Nat) (h : 0 < most) : parE most [] = 5 ∧ parV most [] = 0 ∧ parL most [] = [] := by
  have e : parE most [] = 5 := by unfold parE; rw [if_neg (by simp [lead]; omega), if_pos (by simp [lead])]
  exact ⟨e, by unfold parV; rw [if_neg (by rw [e]; decide)], by unfold parL; simp⟩
theorem num_st {most : Nat} (hm : 0 < most) {l : List UInt8} {e : Int} (h : e ≠ 0 → l = []) : failSt (parL most l) e (parE most l) = numSt most l e ∧ parV most l = numVal most l e := by
  by_cases he : e = 0
  · subst he
    unfold numSt numVal
    rw [if_pos rfl, if_pos rfl]
    refine ⟨?_, rfl⟩
    by_cases hx : parE most l = 0
    · rw [hx, failSt_ok, parL_ok hx]
    · rw [failSt_new _ hx, (par_no hx).2]
  · obtain rfl := h he
    have := par_empty most hm
    unfold numSt numVal
    rw [if_neg he, if_neg he, failSt_old _ _ he, this.2.2]
    exact ⟨rfl, this.2.1⟩
theorem numSt_inv {most : Nat} {l : List UInt8} {e : Int} (h : e ≠ 0 → l = []) : (numSt most l e).2 ≠ 0 → (numSt most l e).1 = [] := by
  unfold numSt
  split
  · intro hx; exact (par_no hx).2
  · exact h
section
variable {l l1 : List UInt8} {e e1 most : Int}
theorem numSt_ok (h : numSt 9 l e = (l1, 0)) : e = 0 := by
  unfold numSt at h
  split at h
  · assumption
  · exact (Prod.mk.inj h).2
theorem text_dead (h : numSt 9 l e = (l1, e1)) (he : e1 ≠ 0) : textSt most l e = (l1, e1) ∧ textVal most l e = [] := by
  have ht : textE most l e = e1 := by unfold textE; rw [h, if_pos he]
  unfold textSt textVal
  rw [ht, if_neg he, if_neg he]
  refine ⟨?_, rfl⟩
  unfold numSt at h
  split at h
  · rename_i h0
    obtain ⟨h1, h2⟩ := Prod.mk.inj h
    rw [if_pos h0, ← h1, (par_no (by rw [h2]; exact he)).2]
  · rename_i h0
    rw [if_neg h0]; exact h
theorem text_long (h : numSt 9 l e = (l1, 0)) (hm : most < numVal 9 l e) : textSt most l e = failSt l1 0 6 ∧ textVal most l e = [] := by
  have h0 := numSt_ok h
  have ht : textE most l e = 6 := by unfold textE; rw [h, if_neg (by simp), if_pos hm]
  unfold textSt textVal
  rw [ht, if_neg (by decide), if_pos h0, if_neg (by decide), failSt_new _ (by decide)]
  exact ⟨rfl, rfl⟩
theorem text_end (h : numSt 9 l e = (l1, 0)) (hm : ¬ most < numVal 9 l e) (hl : l1.length < numVal 9 l e) : textSt most l e = failSt l1 0 5 ∧ textVal most l e = [] := by
  have h0 := numSt_ok h
  have ht : textE most l e = 5 := by unfold textE; rw [h, if_neg (by simp), if_neg hm, if_pos hl]
  unfold textSt textVal
  rw [ht, if_neg (by decide), if_pos h0, if_neg (by decide), failSt_new _ (by decide)]
  exact ⟨rfl, rfl⟩
theorem text_ok (h : numSt 9 l e = (l1, 0)) (hm : ¬ most < numVal 9 l e) (hl : ¬ l1.length < numVal 9 l e) : textSt most l e = (l1.drop (numVal 9 l e), 0) ∧ textVal most l e = l1.take (numVal 9 l e) := by
  have ht : textE most l e = 0 := by unfold textE; rw [h, if_neg (by simp), if_neg hm, if_neg hl]
  unfold textSt textVal
  rw [ht, if_pos rfl, if_pos rfl, h]
  exact ⟨rfl, rfl⟩
end
end Go.Proofs.Ytoghgjgaolinaaa
