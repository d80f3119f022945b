/-
  A helper of ours: no claim of its own. Layer 18 (eval): a checked expression's answer has its kind (lists).
-/
import Derived.Test.YtopgapbipmblbaaEvaK
import Derived.Test.YtopgapbipmblbaaIdx
set_option linter.unusedVariables false
set_option linter.unusedSimpArgs false
namespace Go.Proofs.Ytopgapbipmblbaa
theorem kdF_err {s : List Cl} {o : Vl} {ks : List Int} : kdF s o ks ≠ .error 0 := by
  unfold kdF
  split
  · split <;> simp
  · split
    · simp
    · split <;> simp
theorem evK_err {s : List Cl} : ∀ t : Tr, evT (kdF s) t ≠ .error 0
  | .leaf o => kdF_err
  | .one o a => by
    have h := evK_err (s := s) a
    simp only [evT]
    cases e : evT (kdF s) a with
    | error z => rw [e] at h; exact h
    | ok x => exact kdF_err
  | .two o a b => by
    have h := evK_err (s := s) a
    have h2 := evK_err (s := s) b
    simp only [evT]
    cases e : evT (kdF s) a with
    | error z => rw [e] at h; exact h
    | ok x =>
      cases e2 : evT (kdF s) b with
      | error z => rw [e2] at h2; exact h2
      | ok y => exact kdF_err
theorem eqP_at : ∀ {l : List Cl} {r : List Vl}, eqP (fun (x : Cl) (y : Vl) => x.2 == y.1) l r = true → l.length = r.length ∧ ∀ (i : Nat) (x : Cl) (y : Vl), l[i]? = some x → r[i]? = some y → x.2 = y.1
  | [], [], _ => ⟨rfl, fun i x y h _ => by simp at h⟩
  | x :: a, y :: b, h => by
    have h' : ((x.2 == y.1) && eqP (fun (x : Cl) (y : Vl) => x.2 == y.1) a b) = true := h
    rw [Bool.and_eq_true] at h'
    obtain ⟨h1, h2⟩ := eqP_at h'.2
    refine ⟨by simp [h1], fun i u v hu hv => ?_⟩
    cases i with
    | zero =>
      obtain rfl : x = u := by simpa using hu
      obtain rfl : y = v := by simpa using hv
      simpa using h'.1
    | succ i => exact h2 i u v (by simpa using hu) (by simpa using hv)
  | [], _ :: _, h => by cases h
  | _ :: _, [], h => by cases h
theorem ev_typed {s : List Cl} {l r : List Vl} (hri : ∀ v ∈ r, inW v) (hi : ∀ o ∈ l, inW o) (hc : exE (ckF s l) = 0) (hs : mayS s = true) (hm : mayR r = true) (he : eqP (fun (x : Cl) (y : Vl) => x.2 == y.1) s r = true) :
    ((evX l r).2 = 0 ∧ (evX l r).1.1 = exK (ckF s l)) ∨ mild (evX l r).2 := by
  obtain ⟨hl, hk⟩ := eqP_at he
  have hr : ∀ v ∈ r, fine v := fun v hv => ⟨(mayR_iff.1 hm).2 v hv, hri v hv⟩
  by_cases hz : formE l = 0
  · obtain ⟨t, hg, rfl, h64⟩ := formE_tree hz
    have hck : ckF s t.flat = evT (kdF s) t := by
      unfold ckF
      rw [if_neg (by simpa using hz), if_neg (by simp [hs]), stR_all _ t hg]
      cases evT (kdF s) t <;> rfl
    rw [hck] at hc ⊢
    cases hK : evT (kdF s) t with
    | error z =>
      rw [hK] at hc
      have hz0 : z = 0 := hc
      exact absurd (hz0 ▸ hK) (evK_err t)
    | ok k =>
      have ht := evT_typed hl hk hr t hg (Tr.inw_of t hi) k hK
      unfold evX
      rw [if_pos hz, if_pos hm, runX_tree hg]
      cases hV : evT (evF r) t with
      | error z => rw [hV] at ht; exact .inr ht
      | ok u => rw [hV] at ht; exact .inl ⟨rfl, ht⟩
  · exfalso
    unfold ckF at hc
    rw [if_pos (by simpa using hz)] at hc
    exact hz hc
end Go.Proofs.Ytopgapbipmblbaa
