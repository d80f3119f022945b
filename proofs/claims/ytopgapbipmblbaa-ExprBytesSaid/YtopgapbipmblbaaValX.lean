/-
  A helper of ours: no claim of its own. Layer 5 (value): what was written is read.
-/
import Derived.Test.YtopgapbipmblbaaValW
import Derived.Test.YtopgapbipmblbaaValR
set_option linter.unusedVariables false
set_option linter.unusedSimpArgs false
namespace Go.Proofs.Ytopgapbipmblbaa
open Go.RowKit
theorem text_back' (l : List UInt8) (hl : l.length ≤ 64) (r : List UInt8) : textVal 64 (textB l ++ r) 0 = l ∧ textSt 64 (textB l ++ r) 0 = (r, 0) := by
  have h := num_back (l.length : Int) (by omega) (by omega) (l ++ r)
  have e : numB (l.length : Int) = grb l.length := by unfold numB; rw [if_neg (by omega)]; simp
  rw [e] at h
  have e2 : textB l ++ r = grb l.length ++ (l ++ r) := by unfold textB; rw [List.append_assoc]
  rw [e2]
  have hv : numVal 9 (grb l.length ++ (l ++ r)) 0 = l.length := by have := h.1; omega
  obtain ⟨h1, h2⟩ := text_ok (most := 64) h.2 (by rw [hv]; omega) (by rw [hv]; simp)
  rw [h1, h2, hv]
  simp
theorem rd_num (r : List UInt8) : rdE (1 :: r) = (numSt 10 r 0).2 ∧ rdS (1 :: r) = numSt 10 r 0 ∧ ((numSt 10 r 0).2 = 0 → rdV (1 :: r) = (1, unz (numVal 10 r 0), ⟨#[]⟩)) := by
  have e : rdE (1 :: r) = (numSt 10 r 0).2 := by simp [rdE]
  refine ⟨e, by simp [rdS], fun h => ?_⟩
  unfold rdV
  rw [e, if_pos h]
  simp
theorem rd_text (r : List UInt8) : rdE (2 :: r) = (textSt 64 r 0).2 ∧ rdS (2 :: r) = textSt 64 r 0 ∧ ((textSt 64 r 0).2 = 0 → rdV (2 :: r) = (2, 0, ⟨(textVal 64 r 0).toArray⟩)) := by
  have e : rdE (2 :: r) = (textSt 64 r 0).2 := by simp [rdE]
  refine ⟨e, by simp [rdS], fun h => ?_⟩
  unfold rdV
  rw [e, if_pos h]
  simp
theorem val_back {k n : Int} {s : ByteArray} (hn : -9223372036854775808 ≤ n ∧ n ≤ 9223372036854775807) (h : mayB k n s = true) (l : List UInt8) : rdE (valB (k, n, s) ++ l) = 0 ∧ rdV (valB (k, n, s) ++ l) = (k, n, s) ∧ rdS (valB (k, n, s) ++ l) = (l, 0) := by
  unfold valB may
  simp only
  rw [h, if_pos rfl]
  rcases may_cases (k := k) (n := n) (s := s) with ⟨rfl, h'⟩ | ⟨rfl, rfl, h'⟩ | ⟨hm, _⟩
  · rw [if_pos rfl, List.cons_append]
    obtain ⟨h1, h2⟩ := int_back n hn l
    obtain ⟨e1, e2, e3⟩ := rd_num (intB n ++ l)
    rw [h2] at e1 e2 e3
    rw [e1, e2, e3 rfl, h1, empty_of h']
    exact ⟨rfl, rfl, rfl⟩
  · rw [if_neg (by decide), List.cons_append]
    obtain ⟨h1, h2⟩ := text_back' s.data.toList (by rw [size_list]; exact h') l
    obtain ⟨e1, e2, e3⟩ := rd_text (textB s.data.toList ++ l)
    rw [h2] at e1 e2 e3
    rw [e1, e2, e3 rfl, h1]
    exact ⟨rfl, rfl, rfl⟩
  · rw [h] at hm; cases hm
theorem valB_len {k n : Int} {s : ByteArray} (hn : -9223372036854775808 ≤ n ∧ n ≤ 9223372036854775807) : (valB (k, n, s)).length ≤ 75 := by
  unfold valB may
  simp only
  split
  · rename_i h
    split
    · have := intB_len hn; simp; omega
    · rcases may_cases (k := k) (n := n) (s := s) with ⟨rfl, h'⟩ | ⟨rfl, rfl, h'⟩ | ⟨hm, _⟩
      · rename_i h1; exact absurd rfl h1
      · have := textB_len h'; simp; omega
      · rw [h] at hm; cases hm
  · simp
theorem valB_no {k n : Int} {s : ByteArray} (h : mayB k n s = false) : valB (k, n, s) = [] := by
  unfold valB may
  simp only
  rw [h, if_neg (by decide)]
end Go.Proofs.Ytopgapbipmblbaa
