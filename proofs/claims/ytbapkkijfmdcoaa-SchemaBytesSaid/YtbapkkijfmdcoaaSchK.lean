/-
  A helper of ours: no claim of its own. Layer 7 (schema): a schema's bytes, as lists; and what is read of bytes as a schema. No program in it.
-/
import Derived.Test.YtbapkkijfmdcoaaSchS
import Derived.Test.YtbapkkijfmdcoaaBinP
set_option linter.unusedVariables false
set_option linter.unusedSimpArgs false
namespace Go.Proofs.Ytbapkkijfmdcoaa
open Go.RowKit
/-- A column's bytes. -/
def colB (c : Cl) : List UInt8 := textB c.1.data.toList ++ [UInt8.ofNat c.2.toNat]
def colsB (l : List Cl) : List UInt8 := l.flatMap colB
/-- A schema's bytes. -/
def schB (l : List Cl) : List UInt8 := if mayS l then UInt8.ofNat l.length :: colsB l else []
theorem colsB_cons (x : Cl) (l : List Cl) : colsB (x :: l) = colB x ++ colsB l := by simp [colsB]
theorem colsB_snoc (l : List Cl) (x : Cl) : colsB (l ++ [x]) = colsB l ++ colB x := by simp [colsB]
/-- What a reader is behind a column, whatever it was; and the column. -/
def colSt (st : List UInt8 × Int) : List UInt8 × Int := byteSt (textSt 16 st.1 st.2).1 (textSt 16 st.1 st.2).2
def colV (st : List UInt8 × Int) : Cl := (⟨(textVal 16 st.1 st.2).toArray⟩, ((byteVal (textSt 16 st.1 st.2).1 (textSt 16 st.1 st.2).2).toNat : Int))
def csS : Nat → List UInt8 × Int → List UInt8 × Int
  | 0, st => st
  | n + 1, st => csS n (colSt st)
def csV : Nat → List UInt8 × Int → List Cl
  | 0, _ => []
  | n + 1, st => colV st :: csV n (colSt st)
theorem csV_len : ∀ n st, (csV n st).length = n
  | 0, _ => rfl
  | n + 1, st => by simp only [csV, List.length_cons, csV_len n]
/-- A schema. -/
def scE : List UInt8 → Int
  | [] => 5
  | c :: r => if c.toNat = 0 ∨ 8 < c.toNat then 4 else if (csS c.toNat (r, 0)).2 ≠ 0 then (csS c.toNat (r, 0)).2 else if mayS (csV c.toNat (r, 0)) then 0 else 17
def scS : List UInt8 → List UInt8 × Int
  | [] => ([], 5)
  | c :: r => if c.toNat = 0 ∨ 8 < c.toNat then (r, 0) else csS c.toNat (r, 0)
def scV (l : List UInt8) : List Cl := if scE l = 0 then (match l with
  | [] => []
  | c :: r => csV c.toNat (r, 0)) else []
theorem scE_zero (l : List UInt8) : scE l = 0 → (scS l).2 = 0 := by
  rcases l with _ | ⟨c, r⟩
  · intro h; cases h
  · simp only [scE, scS]
    split
    · intro h; cases h
    · split
      · rename_i h1; intro h; exact absurd h h1
      · rename_i h1; intro _; exact Decidable.not_not.1 h1
theorem sz_list (s : ByteArray) : s.data.toList.length = s.size := by rw [Array.length_toList]; rfl
theorem text_back16 (l : List UInt8) (hl : l.length ≤ 16) (r : List UInt8) : textVal 16 (textB l ++ r) 0 = l ∧ textSt 16 (textB l ++ r) 0 = (r, 0) := by
  have h := num_back (l.length : Int) (by omega) (by omega) (l ++ r)
  have e : numB (l.length : Int) = grp l.length := by unfold numB; rw [if_neg (by omega)]; simp
  rw [e] at h
  have e2 : textB l ++ r = grp l.length ++ (l ++ r) := by unfold textB; rw [List.append_assoc]
  rw [e2]
  have hv : numVal 9 (grp l.length ++ (l ++ r)) 0 = l.length := by have := h.1; omega
  obtain ⟨h1, h2⟩ := text_ok (most := 16) h.2 (by rw [hv]; omega) (by rw [hv]; simp)
  rw [h1, h2, hv]
  simp
theorem okC_in {c : Cl} (h : okC c = true) : c.1.size ≤ 16 ∧ (c.2 = 1 ∨ c.2 = 2) := by
  unfold okC nameB at h
  simp only [Bool.and_eq_true, decide_eq_true_iff] at h
  exact ⟨h.2.1.2, h.1⟩
theorem col_back {c : Cl} (h : okC c = true) (l : List UInt8) : colV (colB c ++ l, 0) = c ∧ colSt (colB c ++ l, 0) = (l, 0) := by
  obtain ⟨h1, h2⟩ := okC_in h
  have e : colB c ++ l = textB c.1.data.toList ++ (UInt8.ofNat c.2.toNat :: l) := by unfold colB; simp
  obtain ⟨t1, t2⟩ := text_back16 c.1.data.toList (by rw [sz_list]; exact h1) (UInt8.ofNat c.2.toNat :: l)
  unfold colV colSt
  simp only
  rw [e, t1, t2]
  obtain ⟨n, k⟩ := c
  simp only at h2 ⊢
  refine ⟨?_, ?_⟩
  · rcases h2 with rfl | rfl <;> rfl
  · simp [byteSt]
theorem cs_back : ∀ (a : List Cl), (∀ x ∈ a, okC x = true) → ∀ l, csV a.length (colsB a ++ l, 0) = a ∧ csS a.length (colsB a ++ l, 0) = (l, 0)
  | [], _, l => ⟨rfl, rfl⟩
  | x :: a, h, l => by
    obtain ⟨h1, h2⟩ := col_back (h x (by simp)) (colsB a ++ l)
    obtain ⟨i1, i2⟩ := cs_back a (fun z hz => h z (by simp [hz])) l
    rw [colsB_cons, List.append_assoc, List.length_cons]
    simp only [csV, csS, h1, h2, i1, i2, and_self]
theorem sch_back {a : List Cl} (hm : mayS a = true) (l : List UInt8) : scE (schB a ++ l) = 0 ∧ scV (schB a ++ l) = a ∧ scS (schB a ++ l) = (l, 0) := by
  obtain ⟨la, ma, _⟩ := mayS_iff.1 hm
  obtain ⟨b1, b2⟩ := cs_back a ma l
  have ht : (UInt8.ofNat a.length).toNat = a.length := by simp; omega
  have hn : ¬ (a.length = 0 ∨ 8 < a.length) := by omega
  unfold schB
  rw [if_pos hm, List.cons_append]
  have e1 : scE (UInt8.ofNat a.length :: (colsB a ++ l)) = 0 := by
    simp only [scE, ht]; rw [if_neg hn, b1, b2, if_neg (by simp), if_pos hm]
  refine ⟨e1, ?_, ?_⟩
  · unfold scV; rw [if_pos e1]; simp only [ht]; exact b1
  · simp only [scS, ht]; rw [if_neg hn]; exact b2
theorem colB_len {c : Cl} (h : okC c = true) : (colB c).length ≤ 18 := by
  obtain ⟨h1, -⟩ := okC_in h
  rw [← sz_list] at h1
  unfold colB textB
  rw [grp]
  rw [dif_pos (by omega)]
  simp only [List.length_append, List.length_cons, List.length_nil]
  omega
theorem colsB_len : ∀ l : List Cl, (∀ x ∈ l, okC x = true) → (colsB l).length ≤ 18 * l.length
  | [], _ => by simp [colsB]
  | x :: l, h => by
    have h1 := colB_len (h x (by simp))
    have h2 := colsB_len l (fun y hy => h y (by simp [hy]))
    rw [colsB_cons, List.length_append, List.length_cons]
    omega
theorem schB_len (l : List Cl) : (schB l).length ≤ 145 := by
  unfold schB
  split
  · rename_i hm
    obtain ⟨la, ma, _⟩ := mayS_iff.1 hm
    have := colsB_len l ma
    simp only [List.length_cons]; omega
  · simp
end Go.Proofs.Ytbapkkijfmdcoaa
