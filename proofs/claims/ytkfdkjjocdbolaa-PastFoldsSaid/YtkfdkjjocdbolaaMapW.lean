/-
  A helper of ours: no claim of its own. A map's look-up with a word on whether there is an entry.
-/
import Derived.Test.YtkfdkjjocdbolaaMapV
set_option linter.unusedVariables false
set_option linter.unusedSimpArgs false
namespace Go.Proofs.Ytkfdkjjocdbolaa
open Go.Maps (Keyed)
section
variable {α : Type} {f : α → Lit × Value} {P : Program} {k : TypeId} {w w' : World} {b n : Nat} {M : List α}
/-- 'v, ok := m[k]'. -/
theorem Mv.lookOk {t e : TypeId} (h : Mv w P k f b n M) (K : Keyed P k) (ht : P.underlying t = some (.map k e)) {z : Value} (hz : (zeroValue e).run P w = .ok z w) {key : Value} {kl : Lit} (hkey : keyOf P k key = some kl) : (Instr.lookup t (.map (some b)) key true).run P w = .ok (.tuple #[((getM f M kl).map fun q => (f q).2).getD z, .bool (getM f M kl).isSome]) w := by
  have hp := h
  obtain ⟨es0, h0, p0⟩ := hp
  obtain ⟨es, h1, h2⟩ := h.at K kl z
  obtain ⟨v, ps, hrun, hv⟩ := h1.look_ok K ht hz (zd := .held z) (zp := []) rfl hkey
  rw [h2] at hv
  unfold anyE at hv
  simp only [Option.some.injEq, Prod.mk.injEq, DataW.held.injEq] at hv
  obtain ⟨v0, ps0, hrun0, hv0⟩ := h0.look_ok K ht hz (zd := .held z) (zp := []) rfl hkey
  have e : Go.Maps.has (DataW.map es0) kl = (getM f M kl).isSome := by
    show es0.any (fun p => p.1.sameKey kl) = _
    rw [any_permM p0, List.any_map, getM, Bool.eq_iff_iff, List.any_eq_true, List.find?_isSome]
    exact Iff.rfl
  rw [hrun] at hrun0
  simp only [Result.ok.injEq, Value.tuple.injEq, and_true] at hrun0
  have e2 : Go.Maps.has (DataW.map es) kl = Go.Maps.has (DataW.map es0) kl := by
    have := congrArg (fun a : Array Value => a[1]?) hrun0
    simpa using this
  rw [hrun, hv.1, e2, e]
end
end Go.Proofs.Ytkfdkjjocdbolaa
