/-
  A helper of ours: no claim of its own. Layer 7 (schema): columns as lists: names, the first column of a name, two of one name, what is a schema. No program in it.
-/
import Derived.Test.YtkfdkjjocdbolaaMem
set_option linter.unusedVariables false
set_option linter.unusedSimpArgs false
namespace Go.Proofs.Ytkfdkjjocdbolaa
open Go.RowKit
/-- A column: its name, and its kind. -/
abbrev Cl := ByteArray × Int
def letB (c : UInt8) : Bool := decide (97 ≤ c.toNat ∧ c.toNat ≤ 122)
def digB (c : UInt8) : Bool := decide (48 ≤ c.toNat ∧ c.toNat ≤ 57)
/-- The words that stand for something else. -/
def opB (s : ByteArray) : Bool := decide (s.data.toList ∈ [[97, 110, 100], [111, 114], [110, 111, 116], [108, 101, 110]])
def nameB (s : ByteArray) : Bool := decide (s.size ≠ 0 ∧ s.size ≤ 16) && ((s.data.toList.head?.any letB) && ((s.data.toList.all fun c => letB c || digB c) && !opB s))
def okC (c : Cl) : Bool := decide (c.2 = 1 ∨ c.2 = 2) && nameB c.1
/-- The first column with a name, or -1, counted from i on. -/
def ixFrom (n : ByteArray) : List Cl → Int → Int
  | [], _ => -1
  | c :: r, i => if c.1 = n then i else ixFrom n r (i + 1)
def ixC (l : List Cl) (n : ByteArray) : Int := ixFrom n l 0
theorem ixFrom_none (n : ByteArray) : ∀ (l : List Cl) (i : Int), (∀ c ∈ l, c.1 ≠ n) → ixFrom n l i = -1
  | [], _, _ => rfl
  | c :: r, i, h => by
    unfold ixFrom
    rw [if_neg (h c (by simp))]
    exact ixFrom_none n r (i + 1) fun d hd => h d (by simp [hd])
theorem ixFrom_at (n : ByteArray) : ∀ (l : List Cl) (i : Int) (k : Nat) (c : Cl), l[k]? = some c → c.1 = n → (∀ d ∈ l.take k, d.1 ≠ n) → ixFrom n l i = i + k
  | [], _, k, c, h, _, _ => by simp at h
  | d :: r, i, 0, c, h, e, _ => by
    obtain rfl : d = c := by simpa using h
    unfold ixFrom
    rw [if_pos e]
    omega
  | d :: r, i, k + 1, c, h, e, hb => by
    unfold ixFrom
    rw [if_neg (hb d (by simp))]
    have := ixFrom_at n r (i + 1) k c (by simpa using h) e fun x hx => hb x (by simp [hx])
    rw [this]
    omega
theorem ixC_none {l : List Cl} {n : ByteArray} (h : ∀ c ∈ l, c.1 ≠ n) : ixC l n = -1 := ixFrom_none n l 0 h
theorem ixC_at {l : List Cl} {n : ByteArray} {k : Nat} {c : Cl} (hk : l[k]? = some c) (e : c.1 = n) (hb : ∀ d ∈ l.take k, d.1 ≠ n) : ixC l n = k := by
  have := ixFrom_at n l 0 k c hk e hb
  unfold ixC
  omega
/-- A name that stands in a list is met at its first place, which is none behind. -/
theorem ixC_le {l : List Cl} {k : Nat} {c : Cl} (hk : l[k]? = some c) : ∃ j : Nat, ixC l c.1 = j ∧ j ≤ k ∧ ((∀ d ∈ l.take k, d.1 ≠ c.1) ↔ j = k) := by
  have key : ∀ m, m ≤ k → (∀ d ∈ l.take m, d.1 ≠ c.1) ∨ ∃ j, j < m ∧ ∃ d, l[j]? = some d ∧ d.1 = c.1 ∧ ∀ e ∈ l.take j, e.1 ≠ c.1 := by
    intro m
    induction m with
    | zero => intro _; left; intro d hd; simp at hd
    | succ m ih =>
      intro hm
      rcases ih (by omega) with h | ⟨j, hj, h⟩
      · have hlt : m < l.length := by
          have := (List.getElem?_eq_some_iff.1 hk).1
          omega
        obtain ⟨x, hx⟩ : ∃ x, l[m]? = some x := ⟨_, List.getElem?_eq_getElem hlt⟩
        by_cases e : x.1 = c.1
        · exact .inr ⟨m, by omega, x, hx, e, h⟩
        · left
          intro d hd
          rw [List.take_add_one, hx] at hd
          rcases List.mem_append.1 hd with hd | hd
          · exact h d hd
          · obtain rfl : d = x := by simpa using hd
            exact e
      · exact .inr ⟨j, by omega, h⟩
  rcases key k (Nat.le_refl k) with h | ⟨j, hj, d, hd, e, h⟩
  · exact ⟨k, ixC_at hk rfl h, Nat.le_refl k, ⟨fun _ => rfl, fun _ => h⟩⟩
  · refine ⟨j, ixC_at hd e h, by omega, ⟨fun hn => ?_, fun hjk => by omega⟩⟩
    have hdk : d ∈ l.take k := by
      have : (l.take k)[j]? = some d := by rw [List.getElem?_take, if_pos hj]; exact hd
      exact List.mem_of_getElem? this
    exact absurd e (hn d hdk)
/-- No two columns have one name, among the first k. -/
def Apart (l : List Cl) (k : Nat) : Prop := ∀ i, i < k → ∀ c, l[i]? = some c → ∀ d ∈ l.take i, d.1 ≠ c.1
theorem apart_zero (l : List Cl) : Apart l 0 := fun i hi => by omega
theorem apart_step {l : List Cl} {k : Nat} {c : Cl} (h : Apart l k) (hk : l[k]? = some c) (hc : ∀ d ∈ l.take k, d.1 ≠ c.1) : Apart l (k + 1) := by
  intro i hi x hx d hd
  by_cases e : i = k
  · subst e
    rw [hk] at hx
    obtain rfl := Option.some.inj hx
    exact hc d hd
  · exact h i (by omega) x hx d hd
theorem apart_not {l : List Cl} {k n : Nat} {c d : Cl} (hk : l[k]? = some c) (hn : k < n) (hd : d ∈ l.take k) (e : d.1 = c.1) : ¬ Apart l n := fun h => h k hn c hk d hd e
def apartK (l : List Cl) : Nat → Bool
  | 0 => true
  | k + 1 => apartK l k && (match l[k]? with | some c => (l.take k).all fun d => decide (d.1 ≠ c.1) | none => true)
theorem apartK_iff (l : List Cl) : ∀ k, apartK l k = true ↔ Apart l k
  | 0 => ⟨fun _ => apart_zero l, fun _ => rfl⟩
  | k + 1 => by
    unfold apartK
    rw [Bool.and_eq_true, apartK_iff l k]
    cases hk : l[k]? with
    | none =>
      constructor
      · rintro ⟨h, -⟩ i hi x hx d hd
        by_cases e : i = k
        · subst e; rw [hk] at hx; cases hx
        · exact h i (by omega) x hx d hd
      · intro h
        exact ⟨fun i hi => h i (by omega), rfl⟩
    | some c =>
      constructor
      · rintro ⟨h, hc⟩
        exact apart_step h hk fun d hd => by simpa using List.all_eq_true.1 hc d hd
      · intro h
        exact ⟨fun i hi => h i (by omega), by rw [List.all_eq_true]; intro d hd; simpa using h k (by omega) c hk d hd⟩
def apartB (l : List Cl) : Bool := apartK l l.length
/-- A schema. -/
def mayS (l : List Cl) : Bool := decide (1 ≤ l.length ∧ l.length ≤ 8) && (l.all okC && apartB l)
theorem apartB_true {l : List Cl} : apartB l = true ↔ Apart l l.length := apartK_iff l l.length
theorem mayS_iff {l : List Cl} : mayS l = true ↔ (1 ≤ l.length ∧ l.length ≤ 8) ∧ (∀ c ∈ l, okC c = true) ∧ Apart l l.length := by
  unfold mayS
  rw [Bool.and_eq_true, Bool.and_eq_true, decide_eq_true_iff, List.all_eq_true, apartB_true]
end Go.Proofs.Ytkfdkjjocdbolaa
