/-
  A helper of ours: no claim of its own. Layer 5 (value): what is meant by what is written between quotes, on lists.
-/
import Derived.Test.YtpfcmlmljolplaaDoorValD
import Derived.Lib.Bytealg
set_option linter.unusedVariables false
set_option linter.unusedSimpArgs false
namespace Go.Proofs.YtpfcmlmljolplaaDoor
open Go.RowKit
/-- Which digit a byte is. -/
def hexAt (c : UInt8) : Option Nat := if 48 ≤ c.toNat ∧ c.toNat ≤ 57 then some (c.toNat - 48) else if 97 ≤ c.toNat ∧ c.toNat ≤ 102 then some (c.toNat - 87) else none
theorem hexAt_lt {c : UInt8} {n : Nat} (h : hexAt c = some n) : n < 16 := by
  unfold hexAt at h
  split at h
  · cases h; omega
  · split at h
    · cases h; omega
    · cases h
theorem hexAt_hexd : ∀ n : Fin 16, hexAt (hexd n.val) = some n.val := by decide +kernel
theorem hexd_hexAt_all : ∀ c : Fin 256, ∀ n : Fin 16, hexAt (UInt8.ofNat c.val) = some n.val → UInt8.ofNat c.val = hexd n.val := by decide +kernel
theorem hexd_hexAt {c : UInt8} {n : Nat} (h : hexAt c = some n) : c = hexd n := by
  have hl := hexAt_lt h
  have hc : c.toNat < 256 := c.toNat_lt
  have e : UInt8.ofNat c.toNat = c := UInt8.ofNat_toNat
  have := hexd_hexAt_all ⟨c.toNat, hc⟩ ⟨n, hl⟩ (by show hexAt (UInt8.ofNat c.toNat) = some n; rw [e]; exact h)
  simpa [e] using this
def hexV (a b : Nat) : UInt8 := UInt8.ofNat (16 * a + b)
/-- The byte that two digits write. -/
def pair1 : List UInt8 → Option UInt8
  | h :: l :: _ => (match hexAt h, hexAt l with
    | some a, some b => if plainB (hexV a b) then none else some (hexV a b)
    | _, _ => none)
  | _ => none
/-- The library's search among the digits. -/
def hexI : Option Nat → Int
  | some n => n
  | none => -1
theorem index_hex_all : ∀ c : Fin 256, Lib.indexByte [48, 49, 50, 51, 52, 53, 54, 55, 56, 57, 97, 98, 99, 100, 101, 102] (UInt8.ofNat c.val) = hexI (hexAt (UInt8.ofNat c.val)) := by decide +kernel
theorem index_hex (c : UInt8) : Lib.indexByte hexS.data.toList c = hexI (hexAt c) := by
  have e : UInt8.ofNat c.toNat = c := UInt8.ofNat_toNat
  have := index_hex_all ⟨c.toNat, c.toNat_lt⟩
  rw [e] at this
  exact this
/-- The byte that is written first, and how many bytes it takes. -/
def first1 : List UInt8 → Option (UInt8 × Nat)
  | [] => none
  | c :: r => if plainB c then some (c, 1) else if c.toNat = 92 then (pair1 r).map (fun d => (d, 3)) else none
theorem first1_cons (c : UInt8) (r : List UInt8) : first1 (c :: r) = if plainB c then some (c, 1) else if c.toNat = 92 then (pair1 r).map (fun d => (d, 3)) else none := rfl
theorem pair1_cons (h l : UInt8) (q : List UInt8) {a b : Nat} (ha : hexAt h = some a) (hb : hexAt l = some b) : pair1 (h :: l :: q) = if plainB (hexV a b) then none else some (hexV a b) := by
  simp only [pair1, ha, hb]
theorem pair1_some {r : List UInt8} {d : UInt8} (h : pair1 r = some d) : ∃ x y q a b, r = x :: y :: q ∧ hexAt x = some a ∧ hexAt y = some b ∧ d = hexV a b ∧ ¬ plainB d = true := by
  rcases r with _ | ⟨x, _ | ⟨y, q⟩⟩
  · cases h
  · cases h
  · cases ha : hexAt x with
    | none => simp only [pair1, ha] at h; cases h
    | some a =>
      cases hb : hexAt y with
      | none => simp only [pair1, ha, hb] at h; cases h
      | some b =>
        rw [pair1_cons x y q ha hb] at h
        by_cases hp : plainB (hexV a b) = true
        · rw [if_pos hp] at h; cases h
        · rw [if_neg hp] at h
          cases h
          exact ⟨x, y, q, a, b, rfl, ha, hb, rfl, hp⟩
theorem first1_esc (c : UInt8) (r : List UInt8) : first1 (esc c ++ r) = some (c, (esc c).length) := by
  unfold esc
  by_cases hp : plainB c = true
  · rw [if_pos hp]
    show first1 (c :: r) = _
    rw [first1_cons, if_pos hp]; rfl
  · have hc : c.toNat < 256 := c.toNat_lt
    have e : hexV (c.toNat / 16) (c.toNat % 16) = c := by
      unfold hexV
      rw [Nat.div_add_mod]; exact UInt8.ofNat_toNat
    have a1 : hexAt (hexd (c.toNat / 16)) = some (c.toNat / 16) := hexAt_hexd ⟨c.toNat / 16, by omega⟩
    have a2 : hexAt (hexd (c.toNat % 16)) = some (c.toNat % 16) := hexAt_hexd ⟨c.toNat % 16, by omega⟩
    rw [if_neg hp]
    show first1 (92 :: hexd (c.toNat / 16) :: hexd (c.toNat % 16) :: r) = some (c, 3)
    rw [first1_cons, if_neg (by decide), if_pos (by decide), pair1_cons _ _ _ a1 a2, e, if_neg hp]; rfl
theorem first1_some {l : List UInt8} {c : UInt8} {n : Nat} (h : first1 l = some (c, n)) : n = (esc c).length ∧ l = esc c ++ l.drop n := by
  rcases l with _ | ⟨d, r⟩
  · cases h
  · rw [first1_cons] at h
    by_cases hp : plainB d = true
    · rw [if_pos hp] at h
      cases h
      simp [esc, hp]
    · rw [if_neg hp] at h
      by_cases h92 : d.toNat = 92
      · rw [if_pos h92, Option.map_eq_some_iff] at h
        obtain ⟨d', hd, e⟩ := h
        cases e
        obtain ⟨x, y, q, a, b, rfl, ha, hb, rfl, hq⟩ := pair1_some hd
        have la := hexAt_lt ha
        have lb := hexAt_lt hb
        have et : (hexV a b).toNat = 16 * a + b := by
          unfold hexV
          rw [UInt8.toNat_ofNat']; exact Nat.mod_eq_of_lt (by omega)
        have ed : (16 * a + b) / 16 = a := by omega
        have em : (16 * a + b) % 16 = b := by omega
        have e9 : d = 92 := by
          apply UInt8.toNat_inj.1; rw [h92]; rfl
        unfold esc
        rw [if_neg hq, et, ed, em, ← hexd_hexAt ha, ← hexd_hexAt hb, e9]
        exact ⟨rfl, rfl⟩
      · rw [if_neg h92] at h; cases h
theorem esc_pos (c : UInt8) : 1 ≤ (esc c).length := by unfold esc; split <;> simp
theorem first1_len {l : List UInt8} {c : UInt8} {n : Nat} (h : first1 l = some (c, n)) : 1 ≤ n ∧ n ≤ 3 ∧ n ≤ l.length := by
  obtain ⟨h1, h2⟩ := first1_some h
  have h3 := esc_pos c
  have h4 := esc_len c
  refine ⟨by omega, by omega, ?_⟩
  have := congrArg List.length h2
  rw [List.length_append] at this
  omega
/-- What is meant; none, if not all of it is as it is shown. -/
def unqF : Nat → List UInt8 → Option (List UInt8)
  | _, [] => some []
  | 0, _ :: _ => none
  | f + 1, c :: r => match first1 (c :: r) with
    | none => none
    | some (d, n) => (unqF f ((c :: r).drop n)).map (d :: ·)
def unq (l : List UInt8) : Option (List UInt8) := unqF l.length l
theorem unqF_more : ∀ (f g : Nat) (l : List UInt8), l.length ≤ f → l.length ≤ g → unqF f l = unqF g l := by
  intro f
  induction f with
  | zero =>
    intro g l h _
    have : l = [] := List.length_eq_zero_iff.1 (by omega)
    subst this
    cases g <;> rfl
  | succ f ih =>
    intro g l h hg
    rcases l with _ | ⟨c, r⟩
    · cases g <;> rfl
    · rcases g with _ | g
      · simp at hg
      · simp only [unqF]
        cases h1 : first1 (c :: r) with
        | none => rfl
        | some p =>
          obtain ⟨d, n⟩ := p
          have hn := first1_len h1
          have hd : ((c :: r).drop n).length ≤ r.length := by
            rw [List.length_drop, List.length_cons]; omega
          simp only [List.length_cons] at h hg
          show (unqF f ((c :: r).drop n)).map (d :: ·) = (unqF g ((c :: r).drop n)).map (d :: ·)
          rw [ih g _ (by omega) (by omega)]
theorem unq_cons (l : List UInt8) (hl : l ≠ []) : unq l = (match first1 l with
    | none => none
    | some (d, n) => (unq (l.drop n)).map (d :: ·)) := by
  rcases l with _ | ⟨c, r⟩
  · exact absurd rfl hl
  · unfold unq
    simp only [List.length_cons, unqF]
    cases h1 : first1 (c :: r) with
    | none => rfl
    | some p =>
      obtain ⟨d, n⟩ := p
      have hn := first1_len h1
      show (unqF r.length ((c :: r).drop n)).map (d :: ·) = (unqF ((c :: r).drop n).length ((c :: r).drop n)).map (d :: ·)
      rw [unqF_more r.length ((c :: r).drop n).length _ (by rw [List.length_drop, List.length_cons]; omega) (Nat.le_refl _)]
theorem unq_esc : ∀ t : List UInt8, unq (t.flatMap esc) = some t := by
  intro t
  induction t with
  | nil => rfl
  | cons c t ih =>
    rw [List.flatMap_cons]
    have h1 := first1_esc c (t.flatMap esc)
    have hp := esc_pos c
    rw [unq_cons _ (by intro e; have := congrArg List.length e; rw [List.length_append, List.length_nil] at this; omega), h1]
    simp only [List.drop_left, ih, Option.map_some]
theorem unq_some : ∀ (n : Nat) (l t : List UInt8), l.length ≤ n → unq l = some t → l = t.flatMap esc := by
  intro n
  induction n with
  | zero =>
    intro l t h hu
    have : l = [] := List.length_eq_zero_iff.1 (by omega)
    subst this
    cases hu; rfl
  | succ n ih =>
    intro l t h hu
    by_cases hl : l = []
    · subst hl; cases hu; rfl
    · rw [unq_cons l hl] at hu
      cases h1 : first1 l with
      | none => rw [h1] at hu; cases hu
      | some p =>
        obtain ⟨d, k⟩ := p
        rw [h1] at hu
        simp only [Option.map_eq_some_iff] at hu
        obtain ⟨q, hq, rfl⟩ := hu
        have hk := first1_len h1
        have := ih (l.drop k) q (by rw [List.length_drop]; omega) hq
        obtain ⟨_, h2⟩ := first1_some h1
        rw [List.flatMap_cons, ← this]
        exact h2
end Go.Proofs.YtpfcmlmljolplaaDoor
