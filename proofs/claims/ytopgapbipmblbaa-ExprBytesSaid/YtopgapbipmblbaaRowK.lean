/-
  A helper of ours: no claim of its own. Layer 6 (row): a row's bytes, as lists: they tell the row; and what is read of bytes as a row. No program in it.
-/
import Derived.Test.YtopgapbipmblbaaRowS
import Derived.Test.YtopgapbipmblbaaValX
set_option linter.unusedVariables false
set_option linter.unusedSimpArgs false
namespace Go.Proofs.Ytopgapbipmblbaa
open Go.RowKit
/-- Values, one behind the other. -/
def valsB (l : List Vl) : List UInt8 := l.flatMap valB
/-- A row's bytes. -/
def rowB (l : List Vl) : List UInt8 := if mayR l then UInt8.ofNat l.length :: valsB l else []
theorem valsB_cons (x : Vl) (l : List Vl) : valsB (x :: l) = valB x ++ valsB l := by simp [valsB]
theorem valsB_snoc (l : List Vl) (x : Vl) : valsB (l ++ [x]) = valsB l ++ valB x := by simp [valsB]
theorem back1 {x : Vl} (hx : may x = true) (hn : inI x.2.1) (l : List UInt8) : rdE (valB x ++ l) = 0 ∧ rdV (valB x ++ l) = x ∧ rdS (valB x ++ l) = (l, 0) := val_back (k := x.1) (n := x.2.1) (s := x.2.2) hn hx l
theorem valsB_len : ∀ l : List Vl, (∀ x ∈ l, inI x.2.1) → (valsB l).length ≤ 75 * l.length
  | [], _ => by simp [valsB]
  | x :: l, h => by
    have h1 := valB_len (k := x.1) (n := x.2.1) (s := x.2.2) (h x (by simp))
    have h2 := valsB_len l (fun y hy => h y (by simp [hy]))
    rw [valsB_cons, List.length_append, List.length_cons]
    have e : valB (x.1, x.2.1, x.2.2) = valB x := rfl
    rw [e] at h1
    omega
theorem rowB_len {l : List Vl} (h : ∀ x ∈ l, inI x.2.1) : (rowB l).length ≤ 601 := by
  unfold rowB
  split
  · rename_i hm
    have := valsB_len l h
    have := (mayR_iff.1 hm).1
    simp only [List.length_cons]; omega
  · simp
theorem valsB_inj : ∀ a b : List Vl, (∀ x ∈ a, may x = true ∧ inI x.2.1) → (∀ x ∈ b, may x = true ∧ inI x.2.1) → a.length = b.length → ∀ p q, valsB a ++ p = valsB b ++ q → a = b
  | [], [], _, _, _, _, _, _ => rfl
  | [], _ :: _, _, _, h, _, _, _ => by simp at h
  | _ :: _, [], _, _, h, _, _, _ => by simp at h
  | x :: a, y :: b, ha, hb, hl, p, q, h => by
    rw [valsB_cons, valsB_cons, List.append_assoc, List.append_assoc] at h
    have h1 := back1 (ha x (by simp)).1 (ha x (by simp)).2 (valsB a ++ p)
    have h2 := back1 (hb y (by simp)).1 (hb y (by simp)).2 (valsB b ++ q)
    rw [h] at h1
    have e1 : x = y := h1.2.1.symm.trans h2.2.1
    have e2 : valsB a ++ p = valsB b ++ q := by
      have := h1.2.2.symm.trans h2.2.2
      exact congrArg Prod.fst this
    subst e1
    rw [valsB_inj a b (fun z hz => ha z (by simp [hz])) (fun z hz => hb z (by simp [hz])) (by simpa using hl) p q e2]
theorem rowB_inj {a b : List Vl} (ha : mayR a = true) (hb : mayR b = true) (na : ∀ x ∈ a, inI x.2.1) (nb : ∀ x ∈ b, inI x.2.1) : rowB a = rowB b ↔ a = b := by
  constructor
  · intro h
    unfold rowB at h
    rw [if_pos ha, if_pos hb] at h
    obtain ⟨la, ma⟩ := mayR_iff.1 ha
    obtain ⟨lb, mb⟩ := mayR_iff.1 hb
    injection h with h1 h2
    have hl : a.length = b.length := by
      have := congrArg UInt8.toNat h1
      simp at this
      omega
    exact valsB_inj a b (fun x hx => ⟨ma x hx, na x hx⟩) (fun x hx => ⟨mb x hx, nb x hx⟩) hl [] [] (by simpa using h2)
  · rintro rfl; rfl
/-- n values, one after another: what is wrong; what is left behind; the values. -/
def rsE : Nat → List UInt8 → Int
  | 0, _ => 0
  | n + 1, l => if rdE l = 0 then rsE n (rdS l).1 else rdE l
def rsS : Nat → List UInt8 → List UInt8 × Int
  | 0, l => (l, 0)
  | n + 1, l => if rdE l = 0 then rsS n (rdS l).1 else rdS l
def rsV : Nat → List UInt8 → List Vl
  | 0, _ => []
  | n + 1, l => rdV l :: rsV n (rdS l).1
theorem rsV_len : ∀ n l, (rsV n l).length = n
  | 0, _ => rfl
  | n + 1, l => by simp only [rsV, List.length_cons, rsV_len n]
/-- A row. -/
def rwE : List UInt8 → Int
  | [] => 5
  | c :: r => if 8 < c.toNat then 4 else rsE c.toNat r
def rwS : List UInt8 → List UInt8 × Int
  | [] => ([], 5)
  | c :: r => if 8 < c.toNat then (r, 0) else rsS c.toNat r
def rwV (l : List UInt8) : List Vl := if rwE l = 0 then (match l with
  | [] => []
  | c :: r => rsV c.toNat r) else []
theorem rs_back : ∀ (a : List Vl), (∀ x ∈ a, may x = true ∧ inI x.2.1) → ∀ l, rsE a.length (valsB a ++ l) = 0 ∧ rsV a.length (valsB a ++ l) = a ∧ rsS a.length (valsB a ++ l) = (l, 0)
  | [], _, l => ⟨rfl, rfl, rfl⟩
  | x :: a, h, l => by
    obtain ⟨h1, h2, h3⟩ := back1 (h x (by simp)).1 (h x (by simp)).2 (valsB a ++ l)
    obtain ⟨i1, i2, i3⟩ := rs_back a (fun z hz => h z (by simp [hz])) l
    rw [valsB_cons, List.append_assoc, List.length_cons]
    simp only [rsE, rsV, rsS, h1, h2, h3, if_true, i1, i2, i3, and_self]
theorem row_back {a : List Vl} (hm : mayR a = true) (hn : ∀ x ∈ a, inI x.2.1) (l : List UInt8) : rwE (rowB a ++ l) = 0 ∧ rwV (rowB a ++ l) = a ∧ rwS (rowB a ++ l) = (l, 0) := by
  obtain ⟨la, ma⟩ := mayR_iff.1 hm
  have hb := rs_back a (fun x hx => ⟨ma x hx, hn x hx⟩) l
  have ht : (UInt8.ofNat a.length).toNat = a.length := by simp; omega
  unfold rowB
  rw [if_pos hm, List.cons_append]
  have e1 : rwE (UInt8.ofNat a.length :: (valsB a ++ l)) = 0 := by
    simp only [rwE, ht]; rw [if_neg (by omega)]; exact hb.1
  refine ⟨e1, ?_, ?_⟩
  · unfold rwV; rw [if_pos e1]; simp only [ht]; exact hb.2.1
  · simp only [rwS, ht]; rw [if_neg (by omega)]; exact hb.2.2
end Go.Proofs.Ytopgapbipmblbaa
