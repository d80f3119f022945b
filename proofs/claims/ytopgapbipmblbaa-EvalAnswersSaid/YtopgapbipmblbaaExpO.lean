/-
  A helper of ours: no claim of its own. Layer 17 (expr): the check of kinds, by the document.
-/
import Derived.Test.YtopgapbipmblbaaSchE
import Derived.Test.YtopgapbipmblbaaExpN
import Derived.Test.YtopgapbipmblbaaExpH
set_option linter.unusedVariables false
set_option linter.unusedSimpArgs false
namespace Go.Proofs.Ytopgapbipmblbaa
open Go.RowKit
attribute [local go_sem] GW.cell GW.frozen In.eq_true In.le_true In.ne In.ne' In.ne_add In.ne_add' In.lt_add Upto.le_true Upto.le_add Upto.lt_add
end Go.Proofs.Ytopgapbipmblbaa
set_option linter.unusedVariables false
set_option linter.unusedSimpArgs false
namespace Go.Proofs.Ytopgapbipmblbaa
open Go.RowKit
attribute [local go_sem] GW.cell GW.frozen In.eq_true In.le_true In.ne In.ne' In.ne_add In.ne_add' In.lt_add Upto.le_true Upto.le_add Upto.lt_add
/-- The answers of parts, the first one first. -/
def evL {α : Type} (f : Vl → List α → Except Int α) : List Tr → Except Int (List α)
  | [] => .ok []
  | t :: r => match evT f t with
    | .error e => .error e
    | .ok x => match evL f r with
      | .error e => .error e
      | .ok xs => .ok (x :: xs)
theorem evT_kids {α : Type} (f : Vl → List α → Except Int α) (t : Tr) : evT f t = match evL f t.kids with
    | .error e => .error e
    | .ok xs => f t.top xs := by
  cases t with
  | leaf o => rfl
  | one o a =>
    simp only [Tr.kids, Tr.top, evT, evL]
    cases evT f a <;> rfl
  | two o a b =>
    simp only [Tr.kids, Tr.top, evT, evL]
    cases evT f a with
    | error e => rfl
    | ok x => cases evT f b <;> rfl
theorem evL_snoc {α : Type} (f : Vl → List α → Except Int α) : ∀ (K : List Tr) (t : Tr) (xs : List α), evL f K = .ok xs → evL f (K ++ [t]) = match evT f t with
    | .error e => .error e
    | .ok x => .ok (xs ++ [x])
  | [], t, xs, h => by
    simp only [evL] at h
    injection h with h
    subst h
    simp only [List.nil_append, evL]
    try (cases evT f t <;> rfl)
  | k :: K, t, xs, h => by
    simp only [evL] at h
    cases hk : evT f k with
    | error e => rw [hk] at h; cases h
    | ok x =>
      rw [hk] at h
      simp only at h
      cases hK : evL f K with
      | error e => rw [hK] at h; cases h
      | ok ys =>
        rw [hK] at h
        injection h with h
        subst h
        simp only [List.cons_append, evL, hk, evL_snoc f K t ys hK]
        cases evT f t <;> rfl
theorem evL_err {α : Type} (f : Vl → List α → Except Int α) : ∀ (K : List Tr) (i : Nat) (t : Tr) (xs : List α) (e : Int), K[i]? = some t → evL f (K.take i) = .ok xs → evT f t = .error e → evL f K = .error e
  | [], i, t, xs, e, h, _, _ => by simp at h
  | k :: K, 0, t, xs, e, h, _, he => by
    obtain rfl : k = t := by simpa using h
    simp only [evL, he]
  | k :: K, i + 1, t, xs, e, h, hx, he => by
    simp only [List.take_succ_cons, evL] at hx
    cases hk : evT f k with
    | error e => rw [hk] at hx; cases hx
    | ok x =>
      rw [hk] at hx
      simp only at hx
      cases hK : evL f (K.take i) with
      | error e => rw [hK] at hx; cases hx
      | ok ys => simp only [evL, hk, evL_err f K i t ys e (by simpa using h) hK he]
theorem evT_err {s : List Cl} : ∀ (t : Tr) (e : Int), evT (kdF s) t = .error e → e ≠ 0
  | .leaf o, e, h => kd_err h
  | .one o a, e, h => by
    simp only [evT] at h
    cases ha : evT (kdF s) a with
    | error z => rw [ha] at h; injection h with h; subst h; exact evT_err a _ ha
    | ok x => rw [ha] at h; exact kd_err h
  | .two o a b, e, h => by
    simp only [evT] at h
    cases ha : evT (kdF s) a with
    | error z => rw [ha] at h; injection h with h; subst h; exact evT_err a _ ha
    | ok x =>
      rw [ha] at h
      simp only at h
      cases hb : evT (kdF s) b with
      | error z => rw [hb] at h; injection h with h; subst h; exact evT_err b _ hb
      | ok y => rw [hb] at h; exact kd_err h
theorem evL_len {α : Type} (f : Vl → List α → Except Int α) : ∀ (K : List Tr) (xs : List α), evL f K = .ok xs → xs.length = K.length
  | [], xs, h => by simp only [evL] at h; injection h with h; subst h; rfl
  | k :: K, xs, h => by
    simp only [evL] at h
    cases hk : evT f k with
    | error e => rw [hk] at h; cases h
    | ok x =>
      rw [hk] at h
      simp only at h
      cases hK : evL f K with
      | error e => rw [hK] at h; cases h
      | ok ys => rw [hK] at h; injection h with h; subst h; simp [evL_len f K ys hK]
theorem parts_at {w : World} {base : Nat} {v : Value} {L : List (List Vl)} (h : PartsIn w base v L) (i : Nat) (l : List Vl) (hl : L[i]? = some l) : ∃ (g cap : Nat) (A : Option Addr) (c : Nat), v = .slice (some ⟨g, 0, none⟩) L.length cap ∧ g < w.heap.size ∧ w.cell? ⟨g, i, none⟩ = some (.slice A l.length c) ∧ Rw w [] (.slice A l.length c) l := by
  obtain ⟨us, ho, hr⟩ := h
  obtain ⟨u, hu, hw⟩ := hr i l hl
  obtain ⟨A, c, rfl, -⟩ := rw_form hw
  have hi := (List.getElem?_eq_some_iff.1 hl).1
  rcases ho.2 with ⟨_, h0⟩ | ⟨g, cap, cur, rfl, _⟩
  · omega
  · have c1 := ho.cells (g := g) rfl i _ hu
    rw [add_plain, Nat.zero_add] at c1
    exact ⟨g, cap, A, c, rfl, block_lt_of_cell c1, c1, hw⟩
theorem flats_take (K : List Tr) (i : Nat) (t : Tr) (h : K[i]? = some t) : flats (K.take (i + 1)) = flats (K.take i) ++ t.flat := by
  rw [List.take_add_one, h, Option.toList_some, flats_app]; simp [flats]
theorem flats_le (K : List Tr) (i : Nat) : (flats (K.take i)).length ≤ (flats K).length := by
  have : flats K = flats (K.take i) ++ flats (K.drop i) := by rw [← flats_app, List.take_append_drop]
  rw [this, List.length_append]; omega
end Go.Proofs.Ytopgapbipmblbaa
