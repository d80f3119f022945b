/-
  A helper of ours: no claim of its own. Layer 9 (step): jumps where they lie; what is a step function, on both sides.
-/
import Derived.Test.YtkfdkjjocdbolaaStepU
import Derived.Test.YtkfdkjjocdbolaaArg
import Derived.Test.YtkfdkjjocdbolaaRows
import Derived.Handy
import Derived.WalkSpells
import Derived.WalkSmall
import Derived.Deep.LoopGhost
import Derived.BigQuiet
import Derived.WalkLawsBesides
set_option linter.unusedVariables false
set_option linter.unusedSimpArgs false
namespace Go.Proofs.Ytkfdkjjocdbolaa
open Go.RowKit
attribute [local go_sem] GW.cell GW.frozen In.eq_true In.le_true In.ne In.ne' In.ne_add In.ne_add' In.lt_add Upto.le_true Upto.le_add Upto.lt_add
theorem ps_append (l m : List Jp) : ps (l ++ m) = ps l ++ ps m := by simp [ps]
theorem ps_drop (l : List Jp) : ∀ n, (ps l).drop (n * 2) = ps (l.drop n) := by
  induction l with
  | nil => intro n; simp [ps]
  | cons p r ih =>
    intro n
    rcases n with _ | n
    · simp [ps]
    · rw [show (n + 1) * 2 = n * 2 + 1 + 1 by omega]
      simpa [ps] using ih n
theorem ps_one (l : List Jp) : ∀ u ∈ ps l, u.oneCell' = true := by
  intro u hu
  simp only [ps, List.mem_flatMap] at hu
  obtain ⟨a, _, hu⟩ := hu
  simp at hu
  rcases hu with rfl | rfl <;> rfl
/-- Jumps, where they lie. -/
abbrev Jw (w : World) (S : List Nat) (v : Value) (l : List Jp) : Prop := Sl w S 2 v l.length (ps l)
theorem jw_form {w : World} {S : List Nat} {v : Value} {l : List Jp} (h : Jw w S v l) : ∃ A cap, v = .slice A l.length cap ∧ l.length ≤ cap ∧ cap ≤ maxLen ∧
    ∀ (i : Nat) (x : Jp), l[i]? = some x → ∃ b o, A = some ⟨b, o, none⟩ ∧ b ∉ S ∧ b < w.heap.size ∧ w.cell? ⟨b, o + i * 2, none⟩ = some (.int .i64 x.1) ∧ w.cell? ⟨b, o + i * 2 + 1, none⟩ = some (.int .i64 x.2) := by
  obtain ⟨A, cap, rfl, h1, h2, h3, h4⟩ := h
  refine ⟨A, cap, rfl, h1, h2, fun i x hx => ?_⟩
  obtain ⟨g0, g1⟩ := ps_get l i x hx
  rcases h4 with h4 | ⟨b, o, rfl, hb, hc⟩
  · rw [h4] at g0; cases g0
  · have c0 := hc _ _ g0
    have c1 := hc _ _ g1
    exact ⟨b, o, rfl, hb, block_lt_of_cell c0, c0, c1⟩
theorem jcell_later {w wr : World} (h : Ext w wr) {b o : Nat} {u : Value} (hc : w.cell? ⟨b, o, none⟩ = some u) : wr.cell? ⟨b, o, none⟩ = some u :=
  (World.cell?_of_block (a := ⟨b, o, none⟩) (h.block b (block_lt_of_cell hc))).trans hc
theorem jdrop_cons {α : Type} {l : List α} {k : Nat} {x : α} (h : l[k]? = some x) : l.drop k = x :: l.drop (k + 1) := by
  have hk := (List.getElem?_eq_some_iff.1 h).1
  rw [List.drop_eq_getElem_cons hk]
  rw [List.getElem?_eq_getElem hk] at h
  rw [Option.some.inj h]
theorem take_snoc {α : Type} {l : List α} {k : Nat} {x : α} (h : l[k]? = some x) : l.take (k + 1) = l.take k ++ [x] := by
  rw [List.take_add_one, h]; rfl
/-- A jump by value. -/
abbrev jm (x : Jp) : Value := .agg #[.int .i64 x.1, .int .i64 x.2]
theorem src_jmp {P : Program} {tx e' : TypeId} (hk : P.underlying tx = some (.slice e')) (w : World) (x : Jp) (E : TypeId) : Src P 2 tx (.slice (some ⟨w.heap.size, 0, none⟩) 1 1) 1 (ps [x]) (w.alloc (.cells #[.int .i64 x.1, .int .i64 x.2] E)) :=
  Src.ofSlice _ hk _ 1 1 (ps [x]) (by simp [ps]) (fun j u hj => by
    have hj' : j < 2 := by
      have := (List.getElem?_eq_some_iff.1 hj).1
      simpa [ps] using this
    have hh := (Ob.new w E [.int .i64 x.1, .int .i64 x.2]).cell j hj
    rw [show (⟨w.heap.size, 0, none⟩ : Addr).add j = ⟨w.heap.size, j, none⟩ by rw [add_plain]; simp]
    exact hh) (by
    intro u hu
    exact ps_one [x] u hu)
def instB (t : Int) : Bool := decide (-1 ≤ t ∧ t < 1125899906842624)
theorem inst_yes {t : Int} (h : instB t = true) : -1 ≤ t ∧ t < 1125899906842624 := by unfold instB at h; simpa using h
theorem inst_no {t : Int} (h : instB t = false) : t < -1 ∨ (-1 ≤ t ∧ 1125899906842624 ≤ t) := by unfold instB at h; rw [decide_eq_false_iff_not] at h; omega
end Go.Proofs.Ytkfdkjjocdbolaa
