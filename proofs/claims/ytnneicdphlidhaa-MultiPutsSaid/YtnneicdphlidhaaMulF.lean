/-
  A helper of ours: no claim of its own. Layer 24 (multi): one thing inserted ahead of another, where there is room.
-/
import Derived.Test.YtnneicdphlidhaaMulE
import Derived.Shelf.Spec.SlicesInsertGrow
set_option linter.unusedVariables false
set_option linter.unusedSimpArgs false
namespace Go.Proofs.Ytnneicdphlidhaa
open Go.RowKit
attribute [local go_sem] GW.cell GW.frozen In.eq_true In.le_true In.ne In.ne' In.ne_add In.ne_add' In.lt_add Upto.le_true Upto.le_add Upto.lt_add
theorem mrun_copy {P : Program} (w : World) (dT sT ty elem : TypeId) (size b o dLen dCap : Nat) (a : Addr) (sLen sCap : Nat) (cs : List Value)
    (hu : P.underlying dT = some (.slice elem)) (hs : (P.info? elem).map (·.size) = some size) (hn : cs.length = Nat.min sLen dLen * size)
    (hsrc : ∀ j v, cs[j]? = some v → w.cell? (a.add j) = some v) (hc : ∀ j, j < cs.length → (w.cell? ⟨b, o + j, none⟩).isSome = true) (hf : ∀ j, j < cs.length → w.frozen? ⟨b, o + j, none⟩ = false) (h1 : ∀ v ∈ cs, v.oneCell' = true) :
    (Builtin.copy_ #[dT, sT] ty #[.slice (some ⟨b, o, none⟩) dLen dCap, .slice (some a) sLen sCap]).run P w = .ok (goInt (Nat.min sLen dLen)) (w.setCells b o cs) := by
  have hl := run_loadCells_list (P := P) w a cs hsrc
  have hst := run_storeCells_cells (P := P) b o cs 0 w (by simpa using hc) (by simpa using hf) h1
  cases hq : P.info? elem with
  | none => simp [hq] at hs
  | some i =>
    have hi : i.size = size := by simpa [hq] using hs
    have hn' : Nat.min sLen dLen * size = cs.length := hn.symm
    simp [Builtin.copy_, run_underlying hu, Builtin.lenOf, Builtin.firstCells, sizeOf, typeInfo, hq, hi, hn', hl, hst]
theorem mown_more {w : World} {B e : Nat} {g n cap size : Nat} {xs : List Value} (h : w.ownsRow B e size (.slice (some ⟨g, 0, none⟩) n cap) n xs) (hr : n + 1 ≤ cap) :
    ∃ xs', xs'.length = (n + 1) * size ∧ xs'.take (n * size) = xs ∧ w.ownsRow B e size (.slice (some ⟨g, 0, none⟩) (n + 1) cap) (n + 1) xs' := by
  rcases h.2 with ⟨h', _⟩ | ⟨g', cap', cur, h', hb, hg, hnc, hcm, hcs, htake⟩
  · simp at h'
  · simp only [Value.slice.injEq, Option.some.injEq, Addr.mk.injEq, and_true, true_and] at h'
    obtain ⟨rfl, rfl⟩ := h'
    have hle : (n + 1) * size ≤ cap * size := Nat.mul_le_mul_right _ hr
    have hle2 : n * size ≤ (n + 1) * size := Nat.mul_le_mul_right _ (by omega)
    have hl : (cur.toList.take ((n + 1) * size)).length = (n + 1) * size := by rw [List.length_take, Array.length_toList, hcs]; omega
    exact ⟨cur.toList.take ((n + 1) * size), hl, by rw [List.take_take, Nat.min_eq_left hle2]; exact htake, hl, .inr ⟨g, cap, cur, rfl, hb, hg, hr, hcm, hcs, rfl⟩⟩
/-- What is from a place on moved one to the right, and one laid there. -/
theorem sets_ins (l : List Tg) (p : Nat) (k c : Int) (hp : p < l.length) (xs : List Value) (hx : xs.length = (l.length + 1) * 2) (ht : xs.take (l.length * 2) = tgs l) :
    sets (sets xs ((p + 1) * 2) (tgs (l.drop p))) (p * 2) [.int .i64 k, .int .i64 c] = tgs (l.take p ++ (k, c) :: l.drop p) := by
  have hd : (tgs (l.drop p)).length = (l.length - p) * 2 := by rw [tgs_length, List.length_drop]
  have ht' : (tgs (l.take p)).length = p * 2 := by rw [tgs_length, List.length_take, Nat.min_eq_left (by omega)]
  have hc : tgs ((k, c) :: l.drop p) = [.int .i64 k, .int .i64 c] ++ tgs (l.drop p) := rfl
  apply List.ext_getElem?
  intro i
  rw [sets_get, sets_get, sets_length, tgs_app, List.getElem?_append, ht', hd, hx, ← tgs_take, ← ht, hc]
  simp only [List.length_cons, List.length_nil]
  by_cases h1 : i < p * 2
  · rw [if_neg (by omega), if_neg (by omega), if_pos h1, List.getElem?_take, if_pos h1, List.getElem?_take, if_pos (by omega)]
  · rw [if_neg h1]
    by_cases h2 : i < (p + 1) * 2
    · rw [if_pos (by omega), List.getElem?_append_left (by simp; omega)]
    · rw [if_neg (by omega), List.getElem?_append_right (by simp; omega)]
      by_cases h3 : i < (l.length + 1) * 2
      · rw [if_pos (by omega)]
        congr 1
        simp
        omega
      · rw [if_neg (by omega), List.getElem?_eq_none (by omega), List.getElem?_eq_none (by rw [hd]; simp; omega)]
end Go.Proofs.Ytnneicdphlidhaa
