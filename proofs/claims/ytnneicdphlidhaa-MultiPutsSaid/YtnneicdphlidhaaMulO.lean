/-
  A helper of ours: no claim of its own. Layer 24 (multi): lists only: Put keeps what is always so, and is undone by the opposite Put.
-/
import Derived.Test.YtnneicdphlidhaaMulN
set_option linter.unusedVariables false
set_option linter.unusedSimpArgs false
namespace Go.Proofs.Ytnneicdphlidhaa
open Go.RowKit
theorem chg_there {k n0 now : Int} {a r : List Tg} (h : 0 < n0) : chgT k n0 now a.length (a ++ (k, n0) :: r) = if 0 < now then a ++ (k, now) :: r else a ++ r := by
  unfold chgT
  rw [if_pos h]
  have h0 : (a ++ (k, n0) :: r)[a.length]? = some (k, n0) := by simp
  rw [h0]
  by_cases hn : 0 < now
  · rw [if_pos hn, if_pos hn]
    simp
  · rw [if_neg hn, if_neg hn, List.take_left, show a ++ (k, n0) :: r = (a ++ [(k, n0)]) ++ r by simp, show a.length + 1 = (a ++ [(k, n0)]).length by simp, List.drop_left]
theorem chg_new {k now : Int} {a r : List Tg} : chgT k 0 now a.length (a ++ r) = if 0 < now then a ++ (k, now) :: r else a ++ r := by
  unfold chgT
  rw [if_neg (by decide)]
  by_cases hn : 0 < now
  · rw [if_pos hn, if_pos hn, List.take_left, List.drop_left]
  · rw [if_neg hn, if_neg hn]
theorem putE_ok {k n : Int} {l : List Tg} {c : Int} : putE k n l c = 0 ↔ (-1048576 ≤ n ∧ n ≤ 1048576) ∧ 0 ≤ ofT k l + n ∧ c + n ≤ 1048576 := by
  unfold putE
  split
  · constructor
    · intro h; omega
    · intro h; omega
  · split
    · constructor
      · intro h; omega
      · intro h; omega
    · split
      · constructor
        · intro h; omega
        · intro h; omega
      · constructor
        · intro _; omega
        · intro _; rfl
set_option maxHeartbeats 1000000 in
/-- What was put in is taken out by the opposite Put. -/
theorem put_both {k n : Int} {l : List Tg} {c : Int} (h : Good l c) (he : putE k n l c = 0) :
    Good (putL k n l c) (c + n) ∧ putE k (-n) (putL k n l c) (c + n) = 0 ∧ putL k (-n) (putL k n l c) (c + n) = l := by
  obtain ⟨⟨hn1, hn2⟩, ho, hcn⟩ := putE_ok.1 he
  have hL : putL k n l c = chgT k (ofT k l) (ofT k l + n) (ltN k l) l := by unfold putL; rw [if_pos he]
  rw [hL]
  have hc0 := h.nonneg
  obtain ⟨a, r, rfl, hlt, ha, hcase⟩ := dec_at (k := k) h.rise
  obtain ⟨hra, hrr, hrx⟩ := List.pairwise_append.1 h.rise
  have hsum := h.sum
  rw [sumT_app] at hsum
  rcases hcase with ⟨n0, r', rfl, hof, -, hr'⟩ | ⟨hof, -, hr'⟩
  · have hn0 : 1 ≤ n0 := h.pos (k, n0) (by simp)
    have hrr' : RiseT r' := (List.pairwise_cons.1 hrr).2
    rw [hof] at ho ⊢
    rw [hlt, chg_there (by omega)]
    simp only [sumT] at hsum
    by_cases hw : 0 < n0 + n
    · rw [if_pos hw]
      obtain ⟨hlt2, hof2⟩ := at_mid (n := n0 + n) hra hrr' ha hr'
      have hok : putE k (-n) (a ++ (k, n0 + n) :: r') (c + n) = 0 := putE_ok.2 (by rw [hof2]; omega)
      refine ⟨⟨rise_mid hra hrr' ha hr', fun x hx => ?_, ?_, hcn⟩, hok, ?_⟩
      · rcases List.mem_append.1 hx with hx | hx
        · exact h.pos x (by simp [hx])
        · rcases List.mem_cons.1 hx with rfl | hx
          · show 1 ≤ n0 + n; omega
          · exact h.pos x (by simp [hx])
      · rw [sumT_app, sumT]; simp only; omega
      · unfold putL
        rw [if_pos hok, hof2, hlt2, chg_there hw, if_pos (by omega)]
        congr 3
        omega
    · rw [if_neg hw]
      have hrar : RiseT (a ++ r') := List.pairwise_append.2 ⟨hra, hrr', fun x hx y hy => hrx x hx y (by simp [hy])⟩
      obtain ⟨hlt2, hof2⟩ := at_none hrar ha hr'
      have hok : putE k (-n) (a ++ r') (c + n) = 0 := putE_ok.2 (by rw [hof2]; omega)
      refine ⟨⟨hrar, fun x hx => ?_, ?_, hcn⟩, hok, ?_⟩
      · rcases List.mem_append.1 hx with hx | hx
        · exact h.pos x (by simp [hx])
        · exact h.pos x (by simp [hx])
      · rw [sumT_app]; omega
      · unfold putL
        rw [if_pos hok, hof2, hlt2, chg_new, if_pos (by omega)]
        congr 3
        omega
  · rw [hof] at ho ⊢
    rw [hlt, chg_new]
    by_cases hw : 0 < 0 + n
    · rw [if_pos hw]
      obtain ⟨hlt2, hof2⟩ := at_mid (n := 0 + n) hra hrr ha hr'
      have hok : putE k (-n) (a ++ (k, 0 + n) :: r) (c + n) = 0 := putE_ok.2 (by rw [hof2]; omega)
      refine ⟨⟨rise_mid hra hrr ha hr', fun x hx => ?_, ?_, hcn⟩, hok, ?_⟩
      · rcases List.mem_append.1 hx with hx | hx
        · exact h.pos x (by simp [hx])
        · rcases List.mem_cons.1 hx with rfl | hx
          · show 1 ≤ 0 + n; omega
          · exact h.pos x (by simp [hx])
      · rw [sumT_app, sumT]; simp only; omega
      · unfold putL
        rw [if_pos hok, hof2, hlt2, chg_there hw, if_neg (by omega)]
    · rw [if_neg hw]
      have hn0 : n = 0 := by omega
      subst hn0
      have hok : putE k (-0) (a ++ r) (c + 0) = 0 := putE_ok.2 (by rw [hof]; omega)
      refine ⟨⟨h.rise, h.pos, by rw [sumT_app]; omega, hcn⟩, hok, ?_⟩
      unfold putL
      rw [if_pos hok, hof, hlt, chg_new, if_neg (by omega)]
theorem good_put {k n : Int} {l : List Tg} {c : Int} (h : Good l c) : Good (putL k n l c) (putC k n l c) := by
  by_cases he : putE k n l c = 0
  · have := (put_both (n := n) h he).1
    rwa [show putC k n l c = c + n by unfold putC; rw [if_pos he]]
  · rw [show putC k n l c = c by unfold putC; rw [if_neg he], show putL k n l c = l by unfold putL; rw [if_neg he]]
    exact h
theorem ofT_good {k : Int} {l : List Tg} {c : Int} (h : Good l c) : 0 ≤ ofT k l ∧ ofT k l ≤ 1048576 := by
  obtain ⟨a, r, rfl, hlt, ha, hcase⟩ := dec_at (k := k) h.rise
  rcases hcase with ⟨n0, r', rfl, hof, -, hr'⟩ | ⟨hof, -, hr'⟩
  · rw [hof]; exact h.cop (k, n0) (by simp)
  · rw [hof]; omega
end Go.Proofs.Ytnneicdphlidhaa
