/-
  A helper of ours: no claim of its own. Layer 18 (eval): what a word makes of two results, by the code: all cases together.
-/
import Derived.Test.YtopgapbipmblbaaEvaC
set_option linter.unusedVariables false
set_option linter.unusedSimpArgs false
namespace Go.Proofs.Ytopgapbipmblbaa
open Go.RowKit
theorem bne_dec (z : Int) : (z != 0) = decide (z ≠ 0) := by by_cases h : z = 0 <;> simp [h]
theorem ofTwo_c (c : Int) (hc : tkI c = 2) (a b : Vl) (ha : fine a) (hb : fine b) (w : World) : Calls Try.prog 80 #[.int .i64 c, rv a, rv b] w fun e w' => e = endX (ofTwo c a b) ∧ Ext w w' := by
  have h720 := tkI_iff2.1 hc
  rcases fine_cases ha with ⟨n, rfl, hn⟩ | ⟨s, rfl, hs⟩ <;> rcases fine_cases hb with ⟨m, rfl, hm⟩ | ⟨t, rfl, ht⟩
  · skip
    by_cases h12 : c = 12
    · subst h12
      exact two_catN n (rN m) w
    by_cases hcm : 13 ≤ c ∧ c ≤ 18
    · have c6 : c = 13 ∨ c = 14 ∨ c = 15 ∨ c = 16 ∨ c = 17 ∨ c = 18 := by omega
      clear hcm h12 h720 hc
      rcases c6 with rfl | rfl | rfl | rfl | rfl | rfl
      · exact two_c13nn n m _ _ rfl rfl w
      · exact two_c14nn n m _ _ rfl (bne_dec _) w
      · exact two_c15nn n m _ _ rfl rfl w
      · exact two_c16nn n m _ _ rfl rfl w
      · exact two_c17nn n m _ _ rfl rfl w
      · exact two_c18nn n m _ _ rfl rfl w
    · have hr : (7 ≤ c ∧ c ≤ 11) ∨ c = 19 ∨ c = 20 := by omega
      have e : ofTwo c (1, n, ⟨#[]⟩) (1, m, ⟨#[]⟩) = ofNums c n m := by unfold ofTwo; rw [if_neg h12, if_neg hcm, if_pos ⟨rfl, rfl⟩]
      rw [e]
      have hN := fun w => ofNumbers_c c n m hr hn hm w
      cases hX : ofNums c n m with
      | ok u => rw [hX] at hN; exact two_num c hr n m (rv u) hN w
      | error z => rw [hX] at hN; exact two_numE c hr n m z hN w
  · skip
    by_cases h12 : c = 12
    · subst h12
      exact two_catN n (rT t) w
    by_cases hcm : 13 ≤ c ∧ c ≤ 18
    · have c6 : c = 13 ∨ c = 14 ∨ c = 15 ∨ c = 16 ∨ c = 17 ∨ c = 18 := by omega
      clear hcm h12 h720 hc
      rcases c6 with rfl | rfl | rfl | rfl | rfl | rfl
      · exact two_c13nt n t w
      · exact two_c14nt n t w
      · exact two_c15nt n t w
      · exact two_c16nt n t w
      · exact two_c17nt n t w
      · exact two_c18nt n t w
    · have hr : (7 ≤ c ∧ c ≤ 11) ∨ c = 19 ∨ c = 20 := by omega
      have e : ofTwo c (1, n, ⟨#[]⟩) (2, 0, t) = .error 12 := by unfold ofTwo; rw [if_neg h12, if_neg hcm, if_neg (fun h => by cases h.2)]
      rw [e]
      exact two_numNT c hr n t w
  · skip
    by_cases h12 : c = 12
    · subst h12
      exact two_catTN s m w
    by_cases hcm : 13 ≤ c ∧ c ≤ 18
    · have c6 : c = 13 ∨ c = 14 ∨ c = 15 ∨ c = 16 ∨ c = 17 ∨ c = 18 := by omega
      clear hcm h12 h720 hc
      rcases c6 with rfl | rfl | rfl | rfl | rfl | rfl
      · exact two_c13tn s m hs w
      · exact two_c14tn s m hs w
      · exact two_c15tn s m hs w
      · exact two_c16tn s m hs w
      · exact two_c17tn s m hs w
      · exact two_c18tn s m hs w
    · have hr : (7 ≤ c ∧ c ≤ 11) ∨ c = 19 ∨ c = 20 := by omega
      have e : ofTwo c (2, 0, s) (1, m, ⟨#[]⟩) = .error 12 := by unfold ofTwo; rw [if_neg h12, if_neg hcm, if_neg (fun h => by cases h.1)]
      rw [e]
      exact two_numT c hr s (rN m) w
  · skip
    by_cases h12 : c = 12
    · subst h12
      by_cases hl : 64 < s.size + t.size
      · have e : ofTwo 12 (2, 0, s) (2, 0, t) = .error 6 := by unfold ofTwo; rw [if_pos rfl, if_pos ⟨rfl, rfl⟩, if_pos hl]
        rw [e]
        exact two_catE s t hs ht hl w
      · have e : ofTwo 12 (2, 0, s) (2, 0, t) = .ok (2, 0, s ++ t) := by unfold ofTwo; rw [if_pos rfl, if_pos ⟨rfl, rfl⟩, if_neg hl]
        rw [e]
        exact two_cat s t hs ht (by omega) w
    by_cases hcm : 13 ≤ c ∧ c ≤ 18
    · have c6 : c = 13 ∨ c = 14 ∨ c = 15 ∨ c = 16 ∨ c = 17 ∨ c = 18 := by omega
      clear hcm h12 h720 hc
      rcases c6 with rfl | rfl | rfl | rfl | rfl | rfl
      · exact two_c13tt s t hs ht _ _ rfl rfl w
      · exact two_c14tt s t hs ht _ _ rfl (bne_dec _) w
      · exact two_c15tt s t hs ht _ _ rfl rfl w
      · exact two_c16tt s t hs ht _ _ rfl rfl w
      · exact two_c17tt s t hs ht _ _ rfl rfl w
      · exact two_c18tt s t hs ht _ _ rfl rfl w
    · have hr : (7 ≤ c ∧ c ≤ 11) ∨ c = 19 ∨ c = 20 := by omega
      have e : ofTwo c (2, 0, s) (2, 0, t) = .error 12 := by unfold ofTwo; rw [if_neg h12, if_neg hcm, if_neg (fun h => by cases h.1)]
      rw [e]
      exact two_numT c hr s (rT t) w
end Go.Proofs.Ytopgapbipmblbaa
