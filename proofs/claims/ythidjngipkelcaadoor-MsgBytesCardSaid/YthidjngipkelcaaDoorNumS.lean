/-
  A helper of ours: no claim of its own. Layer 1 (num): digits, as plain functions on lists of bytes. No program in it.
-/
import Derived.Test.YthidjngipkelcaaDoorNumA
import Derived.Lib.ParseIntB
import Derived.Lib.ItoaNum
set_option linter.unusedVariables false
set_option linter.unusedSimpArgs false
namespace Go.Proofs.YthidjngipkelcaaDoor

def isDig (c : UInt8) : Prop := 48 ≤ c.toNat ∧ c.toNat ≤ 57
instance (c : UInt8) : Decidable (isDig c) := inferInstanceAs (Decidable (_ ∧ _))
def digsB (l : List UInt8) : Bool := l.all fun c => decide (isDig c)
def dval (acc : Nat) (l : List UInt8) : Nat := l.foldl (fun a c => a * 10 + (c.toNat - 48)) acc
theorem dval_nil (acc : Nat) : dval acc [] = acc := List.foldl_nil ..
theorem dval_cons (acc : Nat) (c : UInt8) (r : List UInt8) : dval acc (c :: r) = dval (acc * 10 + (c.toNat - 48)) r := List.foldl_cons ..
attribute [irreducible] dval
def isNeg (l : List UInt8) : Bool := match l with
  | c :: _ => decide (c.toNat = 45)
  | [] => false
def bodyD (l : List UInt8) : List UInt8 := if isNeg l then l.tail else l
/-- The form of a number. -/
def numF (l : List UInt8) : Bool := !(bodyD l).isEmpty && digsB (bodyD l) && (decide ((bodyD l).headD 0 ≠ 48) || decide (l = [48]))
def readVal (l : List UInt8) : Int := if isNeg l then -(dval 0 (bodyD l) : Int) else (dval 0 (bodyD l) : Int)
def readE (l : List UInt8) : Int := if numF l then (if inR (readVal l) then 0 else 10) else 4
def readV (l : List UInt8) : Int := if readE l = 0 then readVal l else 0

theorem dval_ge (l : List UInt8) : ∀ acc : Nat, acc ≤ dval acc l ∧ (l ≠ [] → acc * 10 ≤ dval acc l) := by
  induction l with
  | nil => intro acc; rw [dval_nil]; exact ⟨Nat.le_refl _, fun h => absurd rfl h⟩
  | cons c r ih =>
    intro acc
    have := (ih (acc * 10 + (c.toNat - 48))).1
    rw [dval_cons]
    exact ⟨by omega, fun _ => by omega⟩
theorem dval_app (l : List UInt8) : ∀ (acc : Nat) (c : UInt8), dval acc (l ++ [c]) = dval acc l * 10 + (c.toNat - 48) := by
  induction l with
  | nil => intro acc c; rw [List.nil_append, dval_cons, dval_nil, dval_nil]
  | cons d r ih => intro acc c; rw [List.cons_append, dval_cons, dval_cons]; exact ih _ c
theorem dval_one (c : UInt8) : dval 0 [c] = c.toNat - 48 := by
  rw [dval_cons, dval_nil, Nat.zero_mul, Nat.zero_add]
theorem dval_take {l : List UInt8} {k : Nat} {c : UInt8} (h : l[k]? = some c) : dval 0 (l.take (k + 1)) = dval 0 (l.take k) * 10 + (c.toNat - 48) := by
  rw [List.take_add_one, h]
  simp only [Option.toList_some]
  exact dval_app _ _ _
theorem dval_drop (l : List UInt8) : ∀ (k acc : Nat), dval acc l = dval (dval acc (l.take k)) (l.drop k) := by
  induction l with
  | nil => intro k acc; rw [List.take_nil, List.drop_nil, dval_nil, dval_nil]
  | cons c r ih =>
    intro k acc
    cases k with
    | zero => rw [List.take_zero, List.drop_zero, dval_nil]
    | succ k => rw [List.take_succ_cons, List.drop_succ_cons, dval_cons, dval_cons]; exact ih k _
theorem dval_prefix (l : List UInt8) (k : Nat) : dval 0 (l.take k) ≤ dval 0 l := by
  rw [dval_drop l k 0]; exact (dval_ge _ _).1
theorem dval_next {l : List UInt8} {k : Nat} (h : k < l.length) : dval 0 (l.take k) * 10 ≤ dval 0 l := by
  rw [dval_drop l k 0]
  exact (dval_ge _ _).2 (fun e => by have := congrArg List.length e; simp at this; omega)

/-- What the library makes of digits. -/
theorem parseU_digs (M : Nat) (hM : M ≤ 18446744073709551615) (l : List UInt8) : ∀ acc : Nat, digsB l = true → acc ≤ M → Lib.parseUintM M acc l = if dval acc l ≤ M then .ok (dval acc l) else .range := by
  induction l with
  | nil =>
    intro acc _ ha
    rw [dval_nil, if_pos ha]
    rfl
  | cons c r ih =>
    intro acc hd ha
    simp only [digsB, List.all_cons, Bool.and_eq_true, decide_eq_true_eq] at hd
    obtain ⟨hc, hr⟩ := hd
    unfold isDig at hc
    rw [dval_cons]
    have hge := (dval_ge r (acc * 10 + (c.toNat - 48))).1
    generalize hb : acc * 10 + (c.toNat - 48) = b at *
    have hstep : Lib.parseUintM M acc (c :: r) = if 1844674407370955162 ≤ acc then .range else if M < b then .range else Lib.parseUintM M b r := by
      rw [Lib.parseUintM, if_pos hc, hb]
    rw [hstep]
    by_cases h1 : 1844674407370955162 ≤ acc
    · rw [if_pos h1, if_neg (by omega)]
    · rw [if_neg h1]
      by_cases h2 : M < b
      · rw [if_pos h2, if_neg (by omega)]
      · rw [if_neg h2]
        exact ih b hr (by omega)
theorem numF_iff {l : List UInt8} : numF l = true ↔ bodyD l ≠ [] ∧ digsB (bodyD l) = true ∧ ((bodyD l).headD 0 ≠ 48 ∨ l = [48]) := by
  unfold numF
  simp only [Bool.and_eq_true, Bool.not_eq_true', Bool.or_eq_true, decide_eq_true_eq, List.isEmpty_eq_false_iff]
  exact ⟨fun ⟨⟨a, b⟩, c⟩ => ⟨a, b, c⟩, fun ⟨a, b, c⟩ => ⟨⟨a, b⟩, c⟩⟩
theorem parse_num {l : List UInt8} (h : numF l = true) : Lib.parseIntB 64 l = if inR (readVal l) then .ok (readVal l) else .range := by
  obtain ⟨h1, h2, h3⟩ := numF_iff.1 h
  have key : ∀ b : List UInt8, b ≠ [] → digsB b = true → Lib.parseUintB 64 b = if dval 0 b ≤ 18446744073709551615 then .ok (dval 0 b) else .range := by
    intro b hb hd
    unfold Lib.parseUintB
    rw [if_neg hb]
    exact parseU_digs _ (by decide) b 0 hd (Nat.zero_le _)
  rcases l with _ | ⟨c, r⟩
  · simp [bodyD, isNeg] at h1
  by_cases hc : c.toNat = 45
  · have hn : isNeg (c :: r) = true := by simp [isNeg, hc]
    have hb : bodyD (c :: r) = r := by simp [bodyD, hn]
    rw [hb] at h1 h2
    have hv : readVal (c :: r) = -(dval 0 r : Int) := by unfold readVal; rw [if_pos hn, hb]
    rw [hv]
    simp only [Lib.parseIntB]
    rw [if_pos (show c.toNat = 43 ∨ c.toNat = 45 from .inr hc), key r h1 h2]
    have e63 : (2 : Nat) ^ (64 - 1) = 9223372036854775808 := by decide
    rw [e63]
    by_cases hle : dval 0 r ≤ 9223372036854775808
    · rw [if_pos (by omega), inR_yes (n := -(dval 0 r : Int)) (by omega)]
      simp [hc]; omega
    · rw [inR_no (n := -(dval 0 r : Int)) (by omega)]
      by_cases h2' : dval 0 r ≤ 18446744073709551615
      · rw [if_pos h2']
        simp [hc]; omega
      · rw [if_neg h2']; rfl
  · have hn : isNeg (c :: r) = false := by simp [isNeg, hc]
    have hb : bodyD (c :: r) = c :: r := by simp [bodyD, hn]
    rw [hb] at h1 h2
    have hv : readVal (c :: r) = (dval 0 (c :: r) : Int) := by unfold readVal; rw [hn, hb]; rfl
    have hd := h2
    simp only [digsB, List.all_cons, Bool.and_eq_true, decide_eq_true_eq] at hd
    have hcd := hd.1
    unfold isDig at hcd
    rw [hv]
    simp only [Lib.parseIntB]
    rw [if_neg (show ¬ (c.toNat = 43 ∨ c.toNat = 45) by omega), key (c :: r) h1 h2]
    have e63 : (2 : Nat) ^ (64 - 1) = 9223372036854775808 := by decide
    rw [e63]
    by_cases hle : dval 0 (c :: r) < 9223372036854775808
    · rw [if_pos (by omega), inR_yes (n := (dval 0 (c :: r) : Int)) (by omega)]
      simp [hc]; omega
    · rw [inR_no (n := (dval 0 (c :: r) : Int)) (by omega)]
      by_cases h2' : dval 0 (c :: r) ≤ 18446744073709551615
      · rw [if_pos h2']
        simp [hc]; omega
      · rw [if_neg h2']; rfl

/-- A number's digits are a number's form, and tell it. -/
theorem dec_digs (m : Nat) : ∀ n, n ≤ m → digsB (Lib.decDigits n) = true ∧ dval 0 (Lib.decDigits n) = n ∧ Lib.decDigits n ≠ [] ∧ (n ≠ 0 → (Lib.decDigits n).headD 0 ≠ 48) ∧ (n = 0 → Lib.decDigits n = [48]) := by
  induction m with
  | zero =>
    intro n hn
    obtain rfl : n = 0 := by omega
    rw [Lib.decDigits_one (by omega)]
    exact ⟨by decide, by rw [dval_one]; rfl, by simp, fun h => absurd rfl h, fun _ => rfl⟩
  | succ m ih =>
    intro n hn
    by_cases h : n < 10
    · rw [Lib.decDigits_one h]
      have e : (UInt8.ofNat (48 + n)).toNat = 48 + n := by simp; omega
      refine ⟨?_, ?_, by simp, ?_, ?_⟩
      · simp only [digsB, List.all_cons, List.all_nil, Bool.and_true, decide_eq_true_eq, isDig, e]; omega
      · rw [dval_one, e]; omega
      · intro hn0 h48
        have : (UInt8.ofNat (48 + n)).toNat = 48 := by
          have h48' : UInt8.ofNat (48 + n) = 48 := h48
          rw [h48']; rfl
        omega
      · rintro rfl; rfl
    · have e0 : Lib.decDigits n = Lib.decDigits (n / 10) ++ [UInt8.ofNat (48 + n % 10)] := by rw [Lib.decDigits, dif_neg h]
      obtain ⟨h1, h2, h3, h4, h5⟩ := ih (n / 10) (by omega)
      have e : (UInt8.ofNat (48 + n % 10)).toNat = 48 + n % 10 := by simp; omega
      rw [e0]
      refine ⟨?_, ?_, by simp, fun _ => ?_, fun h0 => absurd h0 (by omega)⟩
      · simp only [digsB, List.all_append, Bool.and_eq_true] at h1 ⊢
        refine ⟨h1, ?_⟩
        simp only [List.all_cons, List.all_nil, Bool.and_true, decide_eq_true_eq, isDig, e]; omega
      · rw [dval_app, h2, e]; omega
      · have := h4 (by omega)
        rcases hd : Lib.decDigits (n / 10) with _ | ⟨c, r⟩
        · exact absurd hd h3
        · rw [hd] at this; simpa using this
theorem itoa_form (n : Int) : numF (Lib.itoa n) = true ∧ readVal (Lib.itoa n) = n := by
  unfold Lib.itoa
  by_cases h : n < 0
  · rw [if_pos h]
    obtain ⟨h1, h2, h3, h4, h5⟩ := dec_digs n.natAbs n.natAbs (Nat.le_refl _)
    have hn : isNeg (45 :: Lib.decDigits n.natAbs) = true := rfl
    have hb : bodyD (45 :: Lib.decDigits n.natAbs) = Lib.decDigits n.natAbs := rfl
    exact ⟨numF_iff.2 ⟨by rw [hb]; exact h3, by rw [hb]; exact h1, .inl (by rw [hb]; exact h4 (by omega))⟩, by unfold readVal; rw [if_pos hn, hb, h2]; omega⟩
  · rw [if_neg h]
    obtain ⟨h1, h2, h3, h4, h5⟩ := dec_digs n.toNat n.toNat (Nat.le_refl _)
    have hn : isNeg (Lib.decDigits n.toNat) = false := by
      rcases hd : Lib.decDigits n.toNat with _ | ⟨c, r⟩
      · rfl
      · rw [hd] at h1
        simp only [digsB, List.all_cons, Bool.and_eq_true, decide_eq_true_eq] at h1
        have := h1.1; unfold isDig at this
        simp [isNeg]; omega
    have hb : bodyD (Lib.decDigits n.toNat) = Lib.decDigits n.toNat := by unfold bodyD; rw [hn]; rfl
    refine ⟨numF_iff.2 ⟨by rw [hb]; exact h3, by rw [hb]; exact h1, ?_⟩, by unfold readVal; rw [hn, hb, h2]; simp only [Bool.false_eq_true, if_false]; omega⟩
    rw [hb]
    by_cases h0 : n.toNat = 0
    · exact .inr (h5 h0)
    · exact .inl (h4 h0)
/-- There is one such text. -/
theorem dec_of (l : List UInt8) : ∀ (k : Nat), k = l.length → digsB l = true → l ≠ [] → (l.headD 0 ≠ 48 ∨ l = [48]) → Lib.decDigits (dval 0 l) = l := by
  intro k
  induction k generalizing l with
  | zero => intro hk _ h; exact absurd (List.eq_nil_of_length_eq_zero hk.symm) h
  | succ k ih =>
    intro hk hd hne h0
    obtain ⟨r, c, rfl⟩ : ∃ r c, l = r ++ [c] := ⟨l.dropLast, l.getLast hne, (List.dropLast_concat_getLast hne).symm⟩
    simp only [digsB, List.all_append, Bool.and_eq_true] at hd
    obtain ⟨hr, hc⟩ := hd
    simp only [List.all_cons, List.all_nil, Bool.and_true, decide_eq_true_eq] at hc
    unfold isDig at hc
    rw [dval_app]
    have hcc : ∀ j, j = c.toNat - 48 → UInt8.ofNat (48 + j) = c := by
      rintro j rfl
      rw [show 48 + (c.toNat - 48) = c.toNat by omega]; simp
    rcases r with _ | ⟨d, r⟩
    · rw [dval_nil, List.nil_append, Lib.decDigits_one (by omega), hcc _ (by omega)]
    · have hlen : k = (d :: r).length := by simp at hk ⊢; omega
      have hd48 : d ≠ 48 := by
        rcases h0 with h0 | h0
        · simpa using h0
        · have := congrArg List.length h0; simp at this
      have hi := ih (d :: r) hlen hr (by simp) (.inl (by simpa using hd48))
      have hpos : 1 ≤ dval 0 (d :: r) := by
        simp only [List.all_cons, Bool.and_eq_true, decide_eq_true_eq] at hr
        have hr1 := hr.1
        unfold isDig at hr1
        have hdn : d.toNat ≠ 48 := fun e => hd48 (UInt8.toNat_inj.1 (by rw [e]; rfl))
        have h2 := (dval_ge r (0 * 10 + (d.toNat - 48))).1
        rw [← dval_cons] at h2
        omega
      rw [Lib.decDigits, dif_neg (by omega), show (dval 0 (d :: r) * 10 + (c.toNat - 48)) / 10 = dval 0 (d :: r) by omega, hi, show (dval 0 (d :: r) * 10 + (c.toNat - 48)) % 10 = c.toNat - 48 by omega, hcc _ rfl]
theorem itoa_of {l : List UInt8} (h : numF l = true) : Lib.itoa (readVal l) = l := by
  obtain ⟨h1, h2, h3⟩ := numF_iff.1 h
  rcases l with _ | ⟨c, r⟩
  · simp [bodyD, isNeg] at h1
  by_cases hc : c.toNat = 45
  · have hn : isNeg (c :: r) = true := by simp [isNeg, hc]
    have hb : bodyD (c :: r) = r := by simp [bodyD, hn]
    rw [hb] at h1 h2 h3
    have hc' : c = 45 := UInt8.toNat_inj.1 (by rw [hc]; rfl)
    have h48 : r.headD 0 ≠ 48 := by
      rcases h3 with h3 | h3
      · exact h3
      · have := (List.cons.inj h3).1; rw [hc'] at this; cases this
    have hd := dec_of r r.length rfl h2 h1 (.inl h48)
    have hpos : dval 0 r ≠ 0 := by
      intro e
      rw [e, Lib.decDigits_one (by omega)] at hd
      exact h48 (by rw [← hd]; rfl)
    have hv : readVal (c :: r) = -(dval 0 r : Int) := by unfold readVal; rw [if_pos hn, hb]
    rw [hv]
    unfold Lib.itoa
    rw [if_pos (by omega), show (-(dval 0 r : Int)).natAbs = dval 0 r by omega, hd, hc']
  · have hn : isNeg (c :: r) = false := by simp [isNeg, hc]
    have hb : bodyD (c :: r) = c :: r := by simp [bodyD, hn]
    rw [hb] at h1 h2 h3
    have hv : readVal (c :: r) = (dval 0 (c :: r) : Int) := by unfold readVal; rw [hn, hb]; rfl
    rw [hv]
    unfold Lib.itoa
    rw [if_neg (by omega), show ((dval 0 (c :: r) : Int)).toNat = dval 0 (c :: r) by omega]
    exact dec_of _ _ rfl h2 h1 h3
end Go.Proofs.YthidjngipkelcaaDoor
