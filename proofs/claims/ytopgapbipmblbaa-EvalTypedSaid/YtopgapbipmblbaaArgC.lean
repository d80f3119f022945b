/-
  A helper of ours: no claim of its own. What comes in, as lists: columns.
-/
import Derived.Test.YtopgapbipmblbaaArgV
import Derived.Test.YtopgapbipmblbaaSchB
set_option linter.unusedVariables false
set_option linter.unusedSimpArgs false
namespace Go.Proofs.Ytopgapbipmblbaa
open Go.RowKit Go.Deep Go.ChangeShapes

section
variable {H : Type} {enc : TypeId × Value → H} {P : Program} {w : World} {base fuel : Nat} {held : Bool}
theorem cl_at (l : List Cl) (j : Nat) (u : Value) (h : (cl l)[j]? = some u) : ∃ i a k, l[i]? = some a ∧ j = i * 2 + k ∧ (cc a)[k]? = some u := by
  have hj : j < l.length * 2 := by
    rcases Nat.lt_or_ge j (l.length * 2) with h1 | h1
    · exact h1
    · rw [List.getElem?_eq_none (by rw [cl_length]; exact h1)] at h; cases h
  have hi : j / 2 < l.length := by omega
  refine ⟨j / 2, l[j / 2], j % 2, List.getElem?_eq_getElem hi, by omega, ?_⟩
  have hk : j % 2 = 0 ∨ j % 2 = 1 := by omega
  obtain ⟨v, hv⟩ : ∃ v, (cc l[j / 2])[j % 2]? = some v := by
    rcases hk with e | e <;> rw [e] <;> exact ⟨_, rfl⟩
  have := cl_get l (j / 2) _ (List.getElem?_eq_getElem hi) _ v hv
  rw [show j / 2 * 2 + j % 2 = j by omega, h] at this
  rw [hv, this]
theorem open_cols {t e : TypeId} {f0 f1 : Field} {v : Value} {x : DataW H × List MemPlace} (ht : P.underlying t = some (.slice e)) (he : P.underlying e = some (.struct #[f0, f1]))
    (ce : P.cellsOf e = 2) (o0 : f0.offset = 0) (o1 : f1.offset = 1) (c0 : P.cellsOf f0.type = 1) (c1 : P.cellsOf f1.type = 1)
    (u0 : P.underlying f0.type = some .string) (u1 : P.underlying f1.type = some (.int .i64))
    (h : DataW.trod enc P w base (fun _ => true) held fuel t [v] = some x) : ∃ l : List Cl, l.length = sliceLen x.1 ∧ Cw w [] v l := by
  rcases open_slice ht h with ⟨h1, rfl⟩ | ⟨a, len, cap, m, n, D, Pl, h1, _, hl, hm, hmm, rfl, hel⟩
  · obtain rfl : v = .slice none 0 0 := by simpa using h1
    exact ⟨[], rfl, Sl.nil _ _ _⟩
  · obtain rfl : v = .slice (some a) len cap := by simpa using h1
    simp only [if_true] at hmm
    have each : ∀ i, i < len → ∃ p : Cl, ∀ k u, (cc p)[k]? = some u → w.cell? ((a.add (i * 2)).add k) = some u := by
      intro i hi
      obtain ⟨cs, hc, htr⟩ := hel i (by omega)
      rw [ce] at hc
      obtain ⟨_, hlen, hat⟩ := World.cells?_some hc
      obtain ⟨xs, k, _, _, _, hxl, hf⟩ := DataW.trod_struct he htr
      match cs, hlen with
      | [w0, w1], _ =>
        match xs, hxl with
        | [y0, y1], _ =>
          have g0 := hf 0 f0 rfl
          have g1 := hf 1 f1 rfl
          rw [o0, c0] at g0
          rw [o1, c1] at g1
          obtain ⟨z0, q0, _, _⟩ := DataW.trod_string u0 g0
          obtain ⟨z1, q1, _, _⟩ := DataW.trod_int u1 g1
          simp at q0 q1
          subst q0; subst q1
          refine ⟨(z0, z1), fun k u hu => ?_⟩
          have hk : k < 2 := by simpa [cc] using (List.getElem?_eq_some_iff.1 hu).1
          rw [hat k hk]
          exact hu
    obtain ⟨p, hp⟩ := choose_lt (α := Cl) (p := fun i p => ∀ k u, (cc p)[k]? = some u → w.cell? ((a.add (i * 2)).add k) = some u) each
    refine ⟨(List.range len).map p, by simp [sliceLen], ⟨some a, cap, by simp, by simpa using hl, hm, by rw [cl_length], ?_⟩⟩
    by_cases h0 : len = 0
    · left; subst h0; rfl
    right
    have hz := hp 0 (by omega) 0 _ rfl
    obtain ⟨b, o, rfl⟩ := addr_plain (i := 0) (a := a) (by
      have e0 : (a.add (0 * 2)).add 0 = a.add 0 := by rw [Nat.zero_mul]; exact (show (a.add 0).add 0 = a.add (0 + 0) from Go.Deep.add_add ..)
      rw [e0] at hz; exact hz) rfl
    refine ⟨b, o, rfl, by simp, fun j u hu => ?_⟩
    obtain ⟨i, q, k, hq, rfl, hk⟩ := cl_at _ j u hu
    have hi : i < len := by
      rcases Nat.lt_or_ge i len with h | h
      · exact h
      · rw [List.getElem?_eq_none (by simpa using h)] at hq; cases hq
    have hq' : q = p i := by simpa [hi] using hq.symm
    subst hq'
    have := hp i hi k u hk
    rw [add_plain, add_plain, Nat.add_assoc] at this
    exact this
end
end Go.Proofs.Ytopgapbipmblbaa
