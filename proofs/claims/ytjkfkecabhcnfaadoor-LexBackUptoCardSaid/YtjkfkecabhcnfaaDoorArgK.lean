/-
  A helper of ours: no claim of its own. What comes in, as lists: tokens; what the bound on bulk gives of them.
-/
import Derived.Test.YtjkfkecabhcnfaaDoorLexE
import Derived.Test.YtjkfkecabhcnfaaDoorArg
import Derived.Test.YtjkfkecabhcnfaaDoorBulk
set_option linter.unusedVariables false
set_option linter.unusedSimpArgs false
namespace Go.Proofs.YtjkfkecabhcnfaaDoor
open Go.RowKit Go.Deep Go.ChangeShapes
theorem tkc_at (l : List Tk) (j : Nat) (u : Value) (h : (tkc l)[j]? = some u) : ∃ i p, l[i]? = some p ∧ ((j = i * 2 ∧ u = .int .i64 p.1) ∨ (j = i * 2 + 1 ∧ u = .string ⟨p.2.toArray⟩)) := by
  have hj : j < l.length * 2 := by
    rcases Nat.lt_or_ge j (l.length * 2) with h1 | h1
    · exact h1
    · rw [List.getElem?_eq_none (by rw [tkc_length]; exact h1)] at h; cases h
  have hi : j / 2 < l.length := by omega
  refine ⟨j / 2, l[j / 2], List.getElem?_eq_getElem hi, ?_⟩
  obtain ⟨h0, h1⟩ := tkc_get l (j / 2) _ (List.getElem?_eq_getElem hi)
  rcases (by omega : j = j / 2 * 2 ∨ j = j / 2 * 2 + 1) with e | e
  · left; refine ⟨e, ?_⟩; rw [← e] at h0; rw [h0] at h; cases h; rfl
  · right; refine ⟨e, ?_⟩; rw [← e] at h1; rw [h1] at h; cases h; rfl
section
variable {H : Type} {enc : TypeId × Value → H} {P : Program} {w : World} {base fuel : Nat} {held : Bool}
def tokD (t : Tk) : DataW H := .agg [.lit (.int .i64 t.1), .lit (.string t.2)]
theorem open_toks {t e : TypeId} {f0 f1 : Field} {v : Value} {x : DataW H × List MemPlace} (ht : P.underlying t = some (.slice e)) (he : P.underlying e = some (.struct #[f0, f1]))
    (ce : P.cellsOf e = 2) (o0 : f0.offset = 0) (o1 : f1.offset = 1) (c0 : P.cellsOf f0.type = 1) (c1 : P.cellsOf f1.type = 1) (u0 : P.underlying f0.type = some (.int .i64)) (u1 : P.underlying f1.type = some .string)
    (h : DataW.trod enc P w base (fun _ => true) held fuel t [v] = some x) : ∃ l : List Tk, l.length = sliceLen x.1 ∧ Tw w [] v l ∧ (l = [] ∨ ∃ rest, x.1 = .slice (l.map tokD) rest) := by
  rcases open_slice_pairs ht he ce o0 o1 c0 c1 h with ⟨h1, rfl⟩ | ⟨a, len, cap, m, n, V0, V1, D0, D1, P0, P1, h1, _, hl, hm, hmm, rfl, hcell⟩
  · obtain rfl : v = .slice none 0 0 := by simpa using h1
    exact ⟨[], rfl, Sl.nil w [] 2, .inl rfl⟩
  · obtain rfl : v = .slice (some a) len cap := by simpa using h1
    simp at hmm
    have each : ∀ i, i < len → ∃ p : Tk, V0 i = .int .i64 p.1 ∧ V1 i = .string ⟨p.2.toArray⟩ ∧ D0 i = .lit (.int .i64 p.1) ∧ D1 i = .lit (.string p.2) := by
      intro i hi
      obtain ⟨_, _, t0, t1⟩ := hcell i (by omega)
      obtain ⟨z0, e0, x0, w0⟩ := DataW.trod_int u0 t0
      obtain ⟨z1, e1, x1, w1⟩ := DataW.trod_string u1 t1
      simp at e0 e1
      simp only [Prod.mk.injEq] at x0 x1
      exact ⟨(z0, z1.data.toList), e0, by rw [e1], x0.1, x1.1⟩
    obtain ⟨p, hp⟩ := choose_lt (α := Tk) (p := fun i p => V0 i = .int .i64 p.1 ∧ V1 i = .string ⟨p.2.toArray⟩ ∧ D0 i = .lit (.int .i64 p.1) ∧ D1 i = .lit (.string p.2)) each
    refine ⟨(List.range len).map p, by simp [sliceLen], ?_, .inr ⟨(List.range (m - len)).map fun j => .agg [D0 (len + j), D1 (len + j)], ?_⟩⟩
    · refine ⟨some a, cap, by simp, by simpa using hl, hm, by rw [tkc_length], ?_⟩
      by_cases h0 : len = 0
      · left; subst h0; rfl
      right
      obtain ⟨b, o, rfl⟩ := addr_plain (hcell 0 (by omega)).1 (by omega)
      refine ⟨b, o, rfl, by simp, fun j u hu => ?_⟩
      obtain ⟨i, q, hq, hj⟩ := tkc_at _ j u hu
      have hi : i < len := by
        rcases Nat.lt_or_ge i len with h | h
        · exact h
        · rw [List.getElem?_eq_none (by simpa using h)] at hq; cases hq
      have hq' : q = p i := by simpa [hi] using hq.symm
      obtain ⟨g0, g1, _, _⟩ := hcell i (by omega)
      rw [add_plain] at g0 g1
      obtain ⟨e0, e1, _, _⟩ := hp i hi
      rcases hj with ⟨rfl, rfl⟩ | ⟨rfl, rfl⟩
      · rw [g0, e0, hq']
      · rw [g1, e1, hq']
    · show DataW.slice _ _ = DataW.slice _ _
      congr 1
      rw [List.map_map]
      refine List.map_congr_left fun i hi => ?_
      rw [List.mem_range] at hi
      obtain ⟨_, _, e0, e1⟩ := hp i hi
      simp only [Function.comp, tokD]
      rw [e0, e1]
theorem bulk_toks : ∀ l : List Tk, (joinB (l.map (·.2))).length + l.length ≤ Rows.uptoBulkAll (l.map (tokD (H := H)))
  | [] => by simp [joinB, Rows.uptoBulkAll]
  | [t] => by
    simp only [List.map_cons, List.map_nil, joinB, Rows.uptoBulkAll, tokD, Rows.uptoBulk, List.length_cons, List.length_nil]; omega
  | t :: u :: l => by
    have ih := bulk_toks (u :: l)
    rw [List.map_cons, joinB_cons _ (by simp)]
    rw [show (t :: u :: l).map (tokD (H := H)) = tokD t :: (u :: l).map tokD from rfl, show ∀ (a : DataW H) r, Rows.uptoBulkAll (a :: r) = Rows.uptoBulk a + Rows.uptoBulkAll r from fun a r => by simp only [Rows.uptoBulkAll]]
    have e : Rows.uptoBulk (tokD (H := H) t) = t.2.length + 3 := by simp only [tokD, Rows.uptoBulk, Rows.uptoBulkAll]; omega
    rw [e]
    simp only [List.length_append, List.length_cons] at ih ⊢
    omega
theorem bulk_of_toks {l : List Tk} {x : DataW H} (h : l = [] ∨ ∃ rest, x = .slice (l.map tokD) rest) (hb : Rows.uptoBulk x ≤ 1048576) : (joinB (l.map (·.2))).length + l.length ≤ 1048576 := by
  rcases h with rfl | ⟨rest, rfl⟩
  · simp [joinB]
  · have := bulk_toks (H := H) l
    simp only [Rows.uptoBulk] at hb
    omega
end
end Go.Proofs.YtjkfkecabhcnfaaDoor
