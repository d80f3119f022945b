/-
  A helper of ours: no claim of its own. A message that comes in, by value.
-/
import Derived.Test.YtpfcmlmljolplabDoorArgV
import Derived.Lib.SmallJoins
set_option linter.unusedVariables false
set_option linter.unusedSimpArgs false
namespace Go.Proofs.YtpfcmlmljolplabDoor
open Go.RowKit Go.Deep Go.ChangeShapes Go.WideShapes Go.ChangeAt Go.Joins

section
variable {H : Type} {enc : TypeId × Value → H} {P : Program} {w : World} {base : Nat} {held : Bool}
theorem five {α : Type} {a : Array α} (h : a.size = 5) : ∃ x0 x1 x2 x3 x4, a = #[x0, x1, x2, x3, x4] := by
  obtain ⟨l⟩ := a
  match l, h with
  | [x0, x1, x2, x3, x4], _ => exact ⟨x0, x1, x2, x3, x4, rfl⟩
theorem open_msg {r : Reach} {b0 : Nat} {t e : TypeId} {f0 f1 f2 f3 f4 g0 g1 g2 : Field} {v : Value} {d : DataW H} {p : List MemPlace} (hs : P.underlying t = some (.struct #[f0, f1, f2, f3, f4]))
    (o0 : f0.offset = 0) (o1 : f1.offset = 1) (o2 : f2.offset = 2) (o3 : f3.offset = 3) (o4 : f4.offset = 4)
    (c0 : P.cellsOf f0.type = 1) (c1 : P.cellsOf f1.type = 1) (c2 : P.cellsOf f2.type = 1) (c3 : P.cellsOf f3.type = 1) (c4 : P.cellsOf f4.type = 1)
    (u0 : P.underlying f0.type = some (.int .i64)) (u1 : P.underlying f1.type = some (.int .i64)) (u2 : P.underlying f2.type = some (.int .i64)) (u3 : P.underlying f3.type = some (.int .i64)) (u4 : P.underlying f4.type = some (.slice e))
    (he : P.underlying e = some (.struct #[g0, g1, g2])) (ce : P.cellsOf e = 3) (p0 : g0.offset = 0) (p1 : g1.offset = 1) (p2 : g2.offset = 2) (d0 : P.cellsOf g0.type = 1) (d1 : P.cellsOf g1.type = 1) (d2 : P.cellsOf g2.type = 1)
    (y0 : P.underlying g0.type = some (.int .i64)) (y1 : P.underlying g1.type = some (.int .i64)) (y2 : P.underlying g2.type = some .string) (hC : P.cellsOf t = 5)
    (hv : Value.okWide P w r b0 t v) (h : DataW.Trod enc P w base (fun _ => true) held t v d p) :
    ∃ (k i f t' : Int) (l : List Vl) (u : Value), v = .agg #[.int .i64 k, .int .i64 i, .int .i64 f, .int .i64 t', u] ∧ Rw w [] u l ∧ inI k ∧ inI i ∧ inI f ∧ inI t' ∧ ∀ a ∈ l, inI a.2.1 := by
  obtain ⟨cs, rfl, hsz⟩ := okWide_struct hs hv
  obtain ⟨x0, x1, x2, x3, x4, rfl⟩ := five (hsz.trans hC)
  obtain ⟨fuel, hf⟩ := h
  obtain ⟨xs, k, _, _, _, hxl, hg⟩ := DataW.trod_struct hs hf
  match xs, hxl with
  | [z0, z1, z2, z3, z4], _ =>
    have q0 := hg 0 f0 rfl
    have q1 := hg 1 f1 rfl
    have q2 := hg 2 f2 rfl
    have q3 := hg 3 f3 rfl
    have q4 := hg 4 f4 rfl
    rw [o0, c0] at q0
    rw [o1, c1] at q1
    rw [o2, c2] at q2
    rw [o3, c3] at q3
    rw [o4, c4] at q4
    obtain ⟨a0, e0, _, k0⟩ := DataW.trod_int u0 q0
    obtain ⟨a1, e1, _, k1⟩ := DataW.trod_int u1 q1
    obtain ⟨a2, e2, _, k2⟩ := DataW.trod_int u2 q2
    obtain ⟨a3, e3, _, k3⟩ := DataW.trod_int u3 q3
    simp [Value.cells] at e0 e1 e2 e3
    subst e0; subst e1; subst e2; subst e3
    obtain ⟨l, _, hl, hq⟩ := open_row u4 he ce p0 p1 p2 d0 d1 d2 y0 y1 y2 (show DataW.trod enc P w base (fun _ => true) held k f4.type [x4] = some _ from by simpa [Value.cells] using q4)
    exact ⟨a0, a1, a2, a3, l, x4, rfl, hl, wf_i64 k0, wf_i64 k1, wf_i64 k2, wf_i64 k3, hq⟩
end
end Go.Proofs.YtpfcmlmljolplabDoor
