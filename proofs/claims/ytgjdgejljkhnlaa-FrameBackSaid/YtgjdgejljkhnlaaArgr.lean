/-
  A helper of ours: no claim of its own. What comes in, as lists: slices of slices of bytes.
-/
import Derived.Test.YtgjdgejljkhnlaaArg
set_option linter.unusedVariables false
set_option linter.unusedSimpArgs false
namespace Go.Proofs.Ytgjdgejljkhnlaa
open Go.RowKit Go.Deep Go.ChangeShapes

section
variable {H : Type} {enc : TypeId × Value → H} {P : Program} {w : World} {base fuel : Nat} {held : Bool}
/-- The elements of a reading of a slice. -/
def sliceEls : DataW H → List (DataW H)
  | .slice elems spare => elems
  | _ => []
/-- A slice of slices of bytes: its cells, and what each has. -/
def Rws (w : World) (v : Value) (L : List (Value × List UInt8)) : Prop := Sl w [] 1 v L.length (L.map (·.1)) ∧ ∀ p ∈ L, By w [] p.1 p.2
theorem Rws.ext {w w' : World} {v : Value} {L : List (Value × List UInt8)} (h : Rws w v L) (k : Ext w w') : Rws w' v L := ⟨Sl.ext h.1 k, fun p hp => Sl.ext (h.2 p hp) k⟩
theorem open_rows {t e q : TypeId} {v : Value} {x : DataW H × List MemPlace} (ht : P.underlying t = some (.slice e)) (he : P.underlying e = some (.slice q)) (hq : P.underlying q = some (.int .u8)) (ce : P.cellsOf e = 1) (cq : P.cellsOf q = 1)
    (h : DataW.trod enc P w base (fun _ => true) held fuel t [v] = some x) : ∃ L : List (Value × List UInt8), L.length = sliceLen x.1 ∧ Rws w v L ∧ L.map (·.2.length) = (sliceEls x.1).map sliceLen := by
  rcases open_slice1 ht ce h with ⟨h1, rfl⟩ | ⟨a, len, cap, m, n, V, D, Pl, h1, _, hl, hm, hmm, rfl, hx⟩
  · obtain rfl : v = .slice none 0 0 := by simpa using h1
    exact ⟨[], rfl, ⟨Sl.nil _ _ _, by simp⟩, rfl⟩
  · obtain rfl : v = .slice (some a) len cap := by simpa using h1
    simp only [if_true] at hmm
    have each : ∀ i, i < len → ∃ l : List UInt8, l.length = sliceLen (D i) ∧ By w [] (V i) l := fun i hi => by
      obtain ⟨l, h2, h3⟩ := open_bytes he hq cq (hx i (by omega)).2
      exact ⟨l, h2, h3⟩
    obtain ⟨f, hf⟩ := choose_lt (α := List UInt8) (p := fun i l => l.length = sliceLen (D i) ∧ By w [] (V i) l) each
    refine ⟨(List.range len).map fun i => (V i, f i), by simp [sliceLen], ⟨?_, ?_⟩, ?_⟩
    · refine ⟨some a, cap, by simp, by simpa using hl, hm, by simp, ?_⟩
      by_cases h0 : len = 0
      · left; subst h0; rfl
      right
      obtain ⟨b, o, rfl⟩ := addr_plain (hx 0 (by omega)).1 rfl
      refine ⟨b, o, rfl, by simp, fun j u hu => ?_⟩
      have hj : j < len := by
        rcases Nat.lt_or_ge j len with h | h
        · exact h
        · rw [List.getElem?_eq_none (by simpa using h)] at hu; cases hu
      have h1 := (hx j (by omega)).1
      rw [add_plain] at h1
      rw [h1, ← hu]
      simp [hj]
    · intro p hp
      simp only [List.mem_map, List.mem_range] at hp
      obtain ⟨i, hi, rfl⟩ := hp
      exact (hf i hi).2
    · simp only [sliceEls, List.map_map]
      exact List.map_congr_left fun i hi => (hf i (List.mem_range.1 hi)).1
end
end Go.Proofs.Ytgjdgejljkhnlaa
