/-
  A helper of ours: no claim of its own. Layer 3 (bin): what was written is read again, and each number has one form. No program in it.
-/
import Derived.Test.YtopgapbipmblbaaBinA
import Derived.Test.YtopgapbipmblbaaBinS
set_option linter.unusedVariables false
set_option linter.unusedSimpArgs false
namespace Go.Proofs.Ytopgapbipmblbaa

theorem u8_low (k : Nat) (h : k < 256) : (UInt8.ofNat k).toNat = k := by simp; omega
/-- The byte that ends a number, and where it stands. -/
theorem grb_top (m : Nat) : ∀ (n : Nat) (r : List UInt8), n ≤ m → lead (grb n ++ r) + 1 = (grb n).length ∧ ((grb n ++ r).getD (lead (grb n ++ r)) 0).toNat < 128 ∧
    (n ≠ 0 → ((grb n ++ r).getD (lead (grb n ++ r)) 0).toNat ≠ 0) ∧ ((grb n ++ r).getD (lead (grb n ++ r)) 0).toNat * 128 ^ lead (grb n ++ r) ≤ n := by
  induction m with
  | zero =>
    intro n r hn
    obtain rfl : n = 0 := by omega
    rw [grb_small (by omega)]
    simp [lead]
  | succ m ih =>
    intro n r hn
    by_cases h : n < 128
    · rw [grb_small h]
      have e := u8_low n (by omega)
      have hl : lead ([UInt8.ofNat n] ++ r) = 0 := by
        show lead (UInt8.ofNat n :: r) = 0
        unfold lead; rw [if_neg (by omega)]
      rw [hl]
      have hg : ([UInt8.ofNat n] ++ r).getD 0 0 = UInt8.ofNat n := rfl
      rw [hg, e]
      exact ⟨rfl, h, id, by simp⟩
    · have hd : n / 128 ≤ m := by omega
      obtain ⟨h1, h2, h3, h4⟩ := ih (n / 128) r hd
      rw [grb_great h]
      have e := u8_low (n % 128 + 128) (by omega)
      have hl : lead ((UInt8.ofNat (n % 128 + 128) :: grb (n / 128)) ++ r) = lead (grb (n / 128) ++ r) + 1 := by
        show lead (UInt8.ofNat (n % 128 + 128) :: (grb (n / 128) ++ r)) = _
        rw [lead, if_pos (by omega)]
      rw [hl]
      have hg : ((UInt8.ofNat (n % 128 + 128) :: grb (n / 128)) ++ r).getD (lead (grb (n / 128) ++ r) + 1) 0 = (grb (n / 128) ++ r).getD (lead (grb (n / 128) ++ r)) 0 := rfl
      rw [hg]
      refine ⟨by simp; exact h1, h2, fun _ => h3 (by omega), ?_⟩
      rw [Nat.pow_succ, ← Nat.mul_assoc]
      have := Nat.mul_le_mul_right 128 h4
      omega
theorem grb_gval (m : Nat) : ∀ n, n ≤ m → gval (grb n) = n := by
  induction m with
  | zero =>
    intro n hn
    obtain rfl : n = 0 := by omega
    rw [grb_small (n := 0) (by omega)]
    rfl
  | succ m ih =>
    intro n hn
    by_cases h : n < 128
    · rw [grb_small h]; simp only [gval, u8_low n (by omega)]; omega
    · rw [grb_great h]; simp only [gval, u8_low (n % 128 + 128) (by omega), ih (n / 128) (by omega)]; omega
theorem par_grp {most n : Nat} (r : List UInt8) (hm : (grb n).length ≤ most) (h64 : n < 18446744073709551616) : parE most (grb n ++ r) = 0 ∧ parV most (grb n ++ r) = n ∧ parR most (grb n ++ r) = r := by
  obtain ⟨h1, h2, h3, h4⟩ := grb_top n n r (Nat.le_refl _)
  have e : parE most (grb n ++ r) = 0 := by
    unfold parE
    rw [if_neg (by omega), if_neg (by simp; omega), if_neg, if_neg]
    · rintro ⟨ha, hb⟩
      have : n = 0 := by
        by_cases hn : n = 0
        · exact hn
        · exact absurd hb (h3 hn)
      subst this
      rw [grb_small (by omega)] at h1
      simp at h1; rw [grb_small (by omega)] at ha; simp at ha; omega
    · rintro ⟨ha, hb⟩
      rw [ha] at h4 hb
      have := Nat.mul_le_mul_right (128 ^ 9) hb
      omega
  have ht : (grb n ++ r).take (lead (grb n ++ r) + 1) = grb n := by rw [h1]; simp
  have hd : (grb n ++ r).drop (lead (grb n ++ r) + 1) = r := by rw [h1]; simp
  exact ⟨e, by unfold parV; rw [if_pos e, ht, grb_gval n n (Nat.le_refl _)], by unfold parR; rw [if_pos e, hd]⟩

theorem num_back (n : Int) (h0 : 0 ≤ n) (h1 : n ≤ 9223372036854775807) (r : List UInt8) : (numVal 9 (numB n ++ r) 0 : Int) = n ∧ numSt 9 (numB n ++ r) 0 = (r, 0) := by
  have hl := grb_le 8 n.toNat (by have : (128 : Nat) ^ (8 + 1) = 9223372036854775808 := by decide
                                  omega)
  obtain ⟨a, b, c⟩ := par_grp (most := 9) (n := n.toNat) r hl (by omega)
  unfold numVal numSt numB
  rw [if_pos rfl, if_pos rfl, if_neg (by omega), a, b, c]
  exact ⟨by omega, rfl⟩
theorem unz_zz (n : Int) : unz (zz n).toNat = n := by
  unfold unz zz
  split <;> split <;> omega
theorem zz_unz (v : Nat) : (zz (unz v)).toNat = v := by
  unfold unz zz
  split <;> split <;> omega
theorem int_back (n : Int) (h : -9223372036854775808 ≤ n ∧ n ≤ 9223372036854775807) (r : List UInt8) : unz (numVal 10 (intB n ++ r) 0) = n ∧ numSt 10 (intB n ++ r) 0 = (r, 0) := by
  have hz := zz_in h
  obtain ⟨a, b, c⟩ := par_grp (most := 10) (n := (zz n).toNat) r (grb_ten (by omega)) (by omega)
  unfold numVal numSt intB
  rw [if_pos rfl, if_pos rfl, a, b, c]
  exact ⟨unz_zz n, rfl⟩
theorem text_back (l : List UInt8) (hl : l.length ≤ 140737488355000) (r : List UInt8) : textVal l.length (textB l ++ r) 0 = l ∧ textSt l.length (textB l ++ r) 0 = (r, 0) := by
  have h := num_back (l.length : Int) (by omega) (by omega) (l ++ r)
  have e : numB (l.length : Int) = grb l.length := by unfold numB; rw [if_neg (by omega)]; simp
  rw [e] at h
  have e2 : textB l ++ r = grb l.length ++ (l ++ r) := by unfold textB; rw [List.append_assoc]
  rw [e2]
  have hv : numVal 9 (grb l.length ++ (l ++ r)) 0 = l.length := by have := h.1; omega
  obtain ⟨h1, h2⟩ := text_ok (most := l.length) h.2 (by rw [hv]; omega) (by rw [hv]; simp)
  rw [h1, h2, hv]
  simp

/-- Each number has one form. -/
theorem grb_of : ∀ (p : List UInt8), p ≠ [] → lead p + 1 = p.length → (0 < lead p → (p.getD (lead p) 0).toNat ≠ 0) → grb (gval p) = p ∧ (p.length ≠ 1 → gval p ≠ 0) ∧ ((p.getD (lead p) 0).toNat ≠ 0 → gval p ≠ 0)
  | [], h, _, _ => absurd rfl h
  | [c], _, h1, _ => by
    have hc : c.toNat < 128 := by
      by_cases h : 128 ≤ c.toNat
      · simp [lead, h] at h1
      · omega
    have hl : lead [c] = 0 := by simp [lead]; omega
    have hg : gval [c] = c.toNat := by simp [gval]; omega
    rw [hg, hl]
    refine ⟨by rw [grb_small hc]; simp, by simp, id⟩
  | c :: d :: r, _, h1, h2 => by
    have hc : 128 ≤ c.toNat := by
      by_cases h : 128 ≤ c.toNat
      · exact h
      · simp [lead, h] at h1
    have hl : lead (c :: d :: r) = lead (d :: r) + 1 := by rw [lead, if_pos hc]
    rw [hl] at h1 h2
    have hlast : ((d :: r).getD (lead (d :: r)) 0).toNat ≠ 0 := h2 (by omega)
    obtain ⟨h3, h4, h5⟩ := grb_of (d :: r) (by simp) (by simpa using h1) (fun _ => hlast)
    have hpos := h5 hlast
    have hg : gval (c :: d :: r) = c.toNat % 128 + 128 * gval (d :: r) := rfl
    have hcl := c.toNat_lt
    refine ⟨?_, fun _ => by rw [hg]; omega, fun _ => by rw [hg]; omega⟩
    rw [hg, grb_great (by omega), show (c.toNat % 128 + 128 * gval (d :: r)) / 128 = gval (d :: r) by omega, h3, show (c.toNat % 128 + 128 * gval (d :: r)) % 128 + 128 = c.toNat by omega]
    simp
theorem lead_take : ∀ l : List UInt8, lead l < l.length → lead (l.take (lead l + 1)) = lead l
  | [], h => by simp at h
  | c :: r, h => by
    by_cases hc : 128 ≤ c.toNat
    · have hl : lead (c :: r) = lead r + 1 := by rw [lead, if_pos hc]
      rw [hl] at h ⊢
      rw [List.take_succ_cons, lead, if_pos hc, lead_take r (by simpa using h)]
    · have hl : lead (c :: r) = 0 := by rw [lead, if_neg hc]
      rw [hl]
      rw [List.take_succ_cons, lead, if_neg hc]
theorem par_short {most : Nat} {l : List UInt8} (h : parE most l = 0) : grb (parV most l) = l.take (lead l + 1) ∧ l.take (lead l + 1) ++ parR most l = l := by
  obtain ⟨h1, h2, _⟩ := parE_ne h
  have hlt := lead_take l h2
  refine ⟨?_, by unfold parR; rw [if_pos h]; exact List.take_append_drop _ _⟩
  unfold parV
  rw [if_pos h]
  have hlen : (l.take (lead l + 1)).length = lead l + 1 := by rw [List.length_take]; omega
  refine (grb_of _ (fun e => by rw [e] at hlen; simp at hlen) (by rw [hlt, hlen]) (fun hp => ?_)).1
  rw [hlt] at hp ⊢
  have : (l.take (lead l + 1)).getD (lead l) 0 = l.getD (lead l) 0 := by
    rw [List.getD_eq_getElem?_getD, List.getD_eq_getElem?_getD, List.getElem?_take, if_pos (by omega)]
  rw [this]
  unfold parE at h
  rw [if_neg (by omega), if_neg (by omega)] at h
  split at h
  · cases h
  split at h
  · cases h
  · rename_i h3; intro e; exact h3 ⟨hp, e⟩
end Go.Proofs.Ytopgapbipmblbaa
