/-
  A helper of ours: no claim of its own. Layer 24 (multi): things in order, as lists of numbers with how many copies there are. No program in it.
-/
import Derived.Test.YtnneicdphlidhaaGw
set_option linter.unusedVariables false
set_option linter.unusedSimpArgs false
namespace Go.Proofs.Ytnneicdphlidhaa
/-- A thing, and how many copies. -/
abbrev Tg := Int × Int
def cmpI (a b : Int) : Int := if a < b then -1 else if b < a then 1 else 0
theorem cmpI_lt {a b : Int} : cmpI a b < 0 ↔ a < b := by unfold cmpI; split <;> (try split) <;> omega
theorem cmpI_eq {a b : Int} : cmpI a b = 0 ↔ a = b := by unfold cmpI; split <;> (try split) <;> omega
/-- The things rise. -/
def RiseT (l : List Tg) : Prop := l.Pairwise fun a b => a.1 < b.1
/-- How many things are below k. -/
def ltN (k : Int) : List Tg → Nat
  | [] => 0
  | p :: r => if p.1 < k then ltN k r + 1 else 0
theorem ltN_le (k : Int) : ∀ l : List Tg, ltN k l ≤ l.length
  | [] => Nat.le_refl _
  | p :: r => by unfold ltN; have := ltN_le k r; split <;> simp <;> omega
theorem ltN_lt (k : Int) : ∀ (l : List Tg) (i : Nat) (p : Tg), l[i]? = some p → i < ltN k l → p.1 < k
  | q :: r, 0, p, h, hi => by
    simp at h; subst h
    unfold ltN at hi
    split at hi
    · assumption
    · omega
  | q :: r, i + 1, p, h, hi => by
    unfold ltN at hi
    split at hi
    · exact ltN_lt k r i p (by simpa using h) (by omega)
    · omega
theorem ltN_ge (k : Int) : ∀ (l : List Tg), RiseT l → ∀ (i : Nat) (p : Tg), l[i]? = some p → ltN k l ≤ i → k ≤ p.1
  | q :: r, hr, i, p, h, hi => by
    unfold ltN at hi
    have hr2 := List.pairwise_cons.1 hr
    split at hi
    · cases i with
      | zero => omega
      | succ i => exact ltN_ge k r hr2.2 i p (by simpa using h) (by omega)
    · cases i with
      | zero => simp at h; subst h; omega
      | succ i =>
        have := hr2.1 p (List.mem_of_getElem? (by simpa using h))
        omega
/-- The place is told by what lies ahead and behind. -/
theorem ltN_is {k : Int} {l : List Tg} (hr : RiseT l) {n : Nat} (hn : n ≤ l.length) (h1 : ∀ i p, l[i]? = some p → i < n → p.1 < k) (h2 : ∀ i p, l[i]? = some p → n ≤ i → k ≤ p.1) : ltN k l = n := by
  rcases Nat.lt_trichotomy (ltN k l) n with h | h | h
  · obtain ⟨p, hp⟩ : ∃ p, l[ltN k l]? = some p := ⟨_, List.getElem?_eq_getElem (by omega)⟩
    have a := h1 _ p hp h
    have b := ltN_ge k l hr _ p hp (Nat.le_refl _)
    omega
  · exact h
  · have hl := ltN_le k l
    obtain ⟨p, hp⟩ : ∃ p, l[n]? = some p := ⟨_, List.getElem?_eq_getElem (by omega)⟩
    have a := h2 _ p hp (Nat.le_refl _)
    have b := ltN_lt k l _ p hp h
    omega
/-- Is the thing k there, at its place? -/
def fdB (k : Int) (l : List Tg) : Bool := match l[ltN k l]? with
  | some p => decide (p.1 = k)
  | none => false
/-- How many copies of k there are. -/
def ofT (k : Int) (l : List Tg) : Int := if fdB k l = true then (match l[ltN k l]? with | some p => p.2 | none => 0) else 0
theorem rise_get {l : List Tg} (hr : RiseT l) {i j : Nat} {p q : Tg} (hp : l[i]? = some p) (hq : l[j]? = some q) (h : i < j) : p.1 < q.1 := by
  obtain ⟨hi, rfl⟩ := List.getElem?_eq_some_iff.1 hp
  obtain ⟨hj, rfl⟩ := List.getElem?_eq_some_iff.1 hq
  exact List.pairwise_iff_getElem.1 hr i j hi hj h
end Go.Proofs.Ytnneicdphlidhaa
