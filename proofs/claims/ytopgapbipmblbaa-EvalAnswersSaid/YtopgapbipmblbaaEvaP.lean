/-
  A helper of ours: no claim of its own. Layer 18 (eval): an expression's answer is what its last word makes of its parts' answers (lists).
-/
import Derived.Test.YtopgapbipmblbaaEvaK
import Derived.Test.YtopgapbipmblbaaExpO
set_option linter.unusedVariables false
set_option linter.unusedSimpArgs false
namespace Go.Proofs.Ytopgapbipmblbaa
def resX (x : Except Int Vl) : Vl × Int := match x with
  | .ok u => (u, 0)
  | .error z => ((0, 0, ⟨#[]⟩), z)
theorem evX_tree {r : List Vl} {t : Tr} (hg : t.good) (h64 : t.flat.length ≤ 64) (hm : mayR r = true) : evX t.flat r = resX (evT (evF r) t) := by
  unfold evX
  rw [if_pos (formE_of hg h64), if_pos hm, runX_tree hg]; rfl
theorem exN_e0 {v e : Int} : exN v e ≠ .error 0 := by
  unfold exN
  split
  · simp
  · next h => simp [h]
theorem ofNums_e0 (c a b : Int) : ofNums c a b ≠ .error 0 := by
  unfold ofNums
  split
  · exact exN_e0
  split
  · exact exN_e0
  split
  · exact exN_e0
  split
  · exact exN_e0
  split
  · exact exN_e0
  split <;> simp
theorem evF_e0 (r : List Vl) (o : Vl) (xs : List Vl) : evF r o xs ≠ .error 0 := by
  match xs with
  | [] =>
    show ofNone r o ≠ _
    unfold ofNone
    split
    · simp
    split
    · simp
    split <;> simp
  | [a] =>
    show ofOne o.1 a ≠ _
    unfold ofOne
    split
    · split <;> simp
    split
    · split
      · simp
      · exact exN_e0
    · simp
  | a :: b :: _ =>
    show ofTwo o.1 a b ≠ _
    unfold ofTwo
    split
    · split
      · split <;> simp
      · simp
    split
    · split <;> simp
    split
    · exact ofNums_e0 _ _ _
    · simp
theorem evT_ne0 (r : List Vl) (t : Tr) : ∀ e, evT (evF r) t = .error e → e ≠ 0 := by
  induction t with
  | leaf o => rintro e h rfl; exact evF_e0 r o [] h
  | one o a iha =>
    rintro e h rfl
    simp only [evT] at h
    cases ha : evT (evF r) a with
    | error z => rw [ha] at h; exact iha 0 (by rw [ha]; exact h) rfl
    | ok x => rw [ha] at h; exact evF_e0 _ _ _ h
  | two o a b iha ihb =>
    rintro e h rfl
    simp only [evT] at h
    cases ha : evT (evF r) a with
    | error z => rw [ha] at h; exact iha 0 (by rw [ha]; exact h) rfl
    | ok x =>
      rw [ha] at h
      simp only at h
      cases hb : evT (evF r) b with
      | error z => rw [hb] at h; exact ihb 0 (by rw [hb]; exact h) rfl
      | ok y => rw [hb] at h; exact evF_e0 _ _ _ h
theorem evF_row (r r' : List Vl) (o : Vl) {xs : List Vl} (h : xs ≠ []) : evF r o xs = evF r' o xs := by
  match xs, h with
  | [a], _ => rfl
  | a :: b :: _, _ => rfl
theorem wordV_in {v : Vl} (h : fine v) : inW (wordV v) := by
  rcases fine_cases h with ⟨n, rfl, hn⟩ | ⟨s, rfl, hs⟩
  · exact hn
  · exact (show -9223372036854775808 ≤ (0 : Int) ∧ (0 : Int) ≤ 9223372036854775807 by decide)
/-- The parts' answers in the parts' places. -/
theorem again_ev {r : List Vl} {t : Tr} (hg : t.good) {xs : List Vl} (hx : xs.length = t.kids.length) (h0 : t.kids ≠ []) (hf : ∀ v ∈ xs, fine v) :
    evX (xs.map wordV ++ [t.top]) [] = resX (evF r t.top xs) := by
  have key : ∀ (u : Tr), u.good → u.flat = xs.map wordV ++ [t.top] → evT (evF []) u = evF r t.top xs → evX (xs.map wordV ++ [t.top]) [] = resX (evF r t.top xs) := by
    intro u hu e1 e2
    rw [← e1, evX_tree hu (by rw [e1]; have hk : t.kids.length ≤ 2 := (by cases t <;> simp [Tr.kids]); simp; omega) rfl, e2]
  cases t with
  | leaf o => exact absurd rfl h0
  | one o a =>
    match xs, hx with
    | [x], _ =>
      have hx := hf x (by simp)
      have hw := wordV_ok hx
      refine key (.one o (.leaf (wordV x))) ⟨hg.1, hg.2.1, hw⟩ rfl ?_
      simp only [evT]
      rw [wordV_ev hx]; rfl
  | two o a b =>
    match xs, hx with
    | [x, y], _ =>
      have hx := hf x (by simp)
      have hy := hf y (by simp)
      refine key (.two o (.leaf (wordV x)) (.leaf (wordV y))) ⟨hg.1, hg.2.1, wordV_ok hx, wordV_ok hy⟩ rfl ?_
      simp only [evT]
      rw [wordV_ev hx]; simp only
      rw [wordV_ev hy]; rfl
theorem Tr.top_mem : ∀ t : Tr, t.top ∈ t.flat
  | .leaf o => by simp [Tr.flat, Tr.top]
  | .one o a => by simp [Tr.flat, Tr.top]
  | .two o a b => by simp [Tr.flat, Tr.top]
theorem Tr.kid_mem {t k : Tr} (hk : k ∈ t.kids) {o : Vl} (ho : o ∈ k.flat) : o ∈ t.flat := by
  rw [Tr.flat_kids]
  exact List.mem_append_left _ (List.mem_flatMap.2 ⟨k, hk, ho⟩)
theorem Tr.kid_len {t k : Tr} (hk : k ∈ t.kids) : k.flat.length ≤ t.flat.length := by
  cases t with
  | leaf o => simp [Tr.kids] at hk
  | one o a => simp only [Tr.kids, List.mem_cons, List.not_mem_nil, or_false] at hk; subst hk; simp [Tr.flat]
  | two o a b =>
    simp only [Tr.kids, List.mem_cons, List.not_mem_nil, or_false] at hk
    rcases hk with rfl | rfl <;> simp [Tr.flat] <;> omega
end Go.Proofs.Ytopgapbipmblbaa
