/-
  A helper of ours: no claim of its own. Layer 3 (bin): readers in later worlds.
-/
import Derived.Test.YtopgapbipmblbaaBinC
import Derived.Test.YtopgapbipmblbaaBinR
set_option linter.unusedVariables false
set_option linter.unusedSimpArgs false
namespace Go.Proofs.Ytopgapbipmblbaa
open Go.RowKit
theorem Rdr.fr {W w : World} {S S' : List Nat} {b : Nat} {st : List UInt8 × Int} (h : Rdr W S b st) (k : Fr S' W w) (hn : b ∉ S') (hs : ∀ x, x ∈ S' → x ∈ S) : Rdr w S b st := by
  obtain ⟨hb, hi, v, hO, hB⟩ := h
  exact ⟨hb, hi, v, hO.fr k hn, Sl.fr hB k hs⟩
theorem rdr_ext {w w' : World} {S : List Nat} {b : Nat} {st : List UInt8 × Int} (h : Rdr w S b st) (k : Ext w w') : Rdr w' S b st := h.fr (S' := []) (Fr.of_ext k) (by simp) (by simp)
theorem Rdr.more {w : World} {S S' : List Nat} {b : Nat} {st : List UInt8 × Int} (h : Rdr w S b st) (hs : ∀ x, x ∈ S' → x ∈ S ∨ w.heap.size ≤ x) (hb' : b ∈ S') : Rdr w S' b st := by
  obtain ⟨hb, hi, v, hO, hB⟩ := h
  exact ⟨hb', hi, v, hO, Sl.new hB hs⟩
end Go.Proofs.Ytopgapbipmblbaa
