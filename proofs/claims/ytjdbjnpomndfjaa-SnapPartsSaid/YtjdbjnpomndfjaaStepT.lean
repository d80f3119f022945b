/-
  A helper of ours: no claim of its own. Layer 9 (step): what each call makes of step functions, as lists: jumps put together, two functions at once, parts. No program in it.
-/
import Derived.Test.YtjdbjnpomndfjaaMem
set_option linter.unusedVariables false
set_option linter.unusedSimpArgs false
namespace Go.Proofs.Ytjdbjnpomndfjaa
open Go.RowKit
/-- A jump: where, and by how much. -/
abbrev Jp := Int × Int
/-- The sum of the jumps that are not above t. -/
def jv : List Jp → Int → Int
  | [], _ => 0
  | j :: r, t => (if j.1 ≤ t then j.2 else 0) + jv r t
/-- The sum of all. -/
def js : List Jp → Int
  | [] => 0
  | j :: r => j.2 + js r
theorem jv_append (f g : List Jp) (t : Int) : jv (f ++ g) t = jv f t + jv g t := by
  induction f with
  | nil => simp [jv]
  | cons a r ih => simp only [List.cons_append, jv, ih]; omega
theorem js_append (f g : List Jp) : js (f ++ g) = js f + js g := by
  induction f with
  | nil => simp [js]
  | cons a r ih => simp only [List.cons_append, js, ih]; omega
theorem jv_snoc (f : List Jp) (j : Jp) (t : Int) : jv (f ++ [j]) t = jv f t + (if j.1 ≤ t then j.2 else 0) := by rw [jv_append]; simp [jv]
theorem js_snoc (f : List Jp) (j : Jp) : js (f ++ [j]) = js f + j.2 := by rw [js_append]; simp [js]
theorem jv_low {f : List Jp} {t : Int} (h : ∀ j ∈ f, t < j.1) : jv f t = 0 := by
  induction f with
  | nil => rfl
  | cons a r ih =>
    have := h a (by simp)
    rw [jv, if_neg (by omega), ih (fun j hj => h j (by simp [hj]))]; omega
theorem jv_high {f : List Jp} {t : Int} (h : ∀ j ∈ f, j.1 ≤ t) : jv f t = js f := by
  induction f with
  | nil => rfl
  | cons a r ih => rw [jv, js, if_pos (h a (by simp)), ih (fun j hj => h j (by simp [hj]))]
theorem jv_bound {f : List Jp} {K : Int} (hK : 0 ≤ K) (h : ∀ j ∈ f, -K ≤ j.2 ∧ j.2 ≤ K) (t : Int) : -(K * f.length) ≤ jv f t ∧ jv f t ≤ K * f.length := by
  induction f with
  | nil => simp [jv]
  | cons a r ih =>
    have h1 := ih (fun j hj => h j (by simp [hj]))
    have h2 := h a (by simp)
    have e : K * ((a :: r).length : Int) = K * (r.length : Int) + K := by rw [List.length_cons]; push_cast; rw [Int.mul_add, Int.mul_one]
    rw [e, jv]
    generalize K * (r.length : Int) = z at *
    split <;> omega
theorem js_bound {f : List Jp} {K : Int} (hK : 0 ≤ K) (h : ∀ j ∈ f, -K ≤ j.2 ∧ j.2 ≤ K) : -(K * f.length) ≤ js f ∧ js f ≤ K * f.length := by
  induction f with
  | nil => simp [js]
  | cons a r ih =>
    have h1 := ih (fun j hj => h j (by simp [hj]))
    have h2 := h a (by simp)
    have e : K * ((a :: r).length : Int) = K * (r.length : Int) + K := by rw [List.length_cons]; push_cast; rw [Int.mul_add, Int.mul_one]
    rw [e, js]
    generalize K * (r.length : Int) = z at *
    omega
/-- Rising. -/
abbrev Asc (f : List Jp) : Prop := f.Pairwise fun a b => a.1 < b.1
/-- In the one form. -/
def Canon (f : List Jp) : Prop := Asc f ∧ ∀ j ∈ f, j.2 ≠ 0
/-- A place more, where it belongs. -/
def ins (l : List Int) (t : Int) : List Int := if t ∈ l then l else l.filter (fun x => decide (x < t)) ++ t :: l.filter (fun x => decide (t < x))
theorem ins_mem (l : List Int) (t x : Int) : x ∈ ins l t ↔ x = t ∨ x ∈ l := by
  unfold ins
  split
  · rename_i h
    constructor
    · exact .inr
    · rintro (rfl | h')
      · exact h
      · exact h'
  · simp only [List.mem_append, List.mem_cons, List.mem_filter, decide_eq_true_eq]
    constructor
    · rintro (⟨h1, _⟩ | rfl | ⟨h1, _⟩)
      · exact .inr h1
      · exact .inl rfl
      · exact .inr h1
    · rintro (rfl | h1)
      · exact .inr (.inl rfl)
      · rcases Int.lt_trichotomy x t with h | h | h
        · exact .inl ⟨h1, h⟩
        · exact .inr (.inl h)
        · exact .inr (.inr ⟨h1, h⟩)
theorem ins_asc {l : List Int} (t : Int) (h : l.Pairwise (· < ·)) : (ins l t).Pairwise (· < ·) := by
  unfold ins
  split
  · exact h
  · refine List.pairwise_append.2 ⟨h.sublist List.filter_sublist, List.pairwise_cons.2 ⟨fun a ha => ?_, h.sublist List.filter_sublist⟩, fun a ha b hb => ?_⟩
    · simp only [List.mem_filter, decide_eq_true_eq] at ha; exact ha.2
    · simp only [List.mem_filter, decide_eq_true_eq, List.mem_cons] at ha hb
      rcases hb with rfl | hb
      · exact ha.2
      · omega
theorem ins_length (l : List Int) (t : Int) (h : l.Pairwise (· < ·)) : (ins l t).length ≤ l.length + 1 := by
  unfold ins
  split
  · omega
  · rw [List.length_append, List.length_cons]
    have : ∀ m : List Int, (m.filter (fun x => decide (x < t))).length + (m.filter (fun x => decide (t < x))).length ≤ m.length := by
      intro m
      induction m with
      | nil => simp
      | cons a r ih =>
        simp only [List.filter_cons]
        split <;> split <;> simp only [List.length_cons, decide_eq_true_eq] at * <;> omega
    have := this l
    omega
/-- The places of jumps, rising, beside those that are there. -/
def plc (a : List Int) (f : List Jp) : List Int := f.foldl (fun a j => ins a j.1) a
theorem plc_snoc (a : List Int) (f : List Jp) (j : Jp) : plc a (f ++ [j]) = ins (plc a f) j.1 := by simp [plc]
theorem plc_mem (f : List Jp) : ∀ (a : List Int) (x : Int), x ∈ plc a f ↔ x ∈ a ∨ ∃ j ∈ f, j.1 = x := by
  induction f with
  | nil => intro a x; simp [plc]
  | cons k r ih =>
    intro a x
    rw [show plc a (k :: r) = plc (ins a k.1) r from rfl, ih, ins_mem]
    simp only [List.mem_cons, exists_eq_or_imp]
    constructor
    · rintro ((h | h) | h)
      · exact .inr (.inl h.symm)
      · exact .inl h
      · exact .inr (.inr h)
    · rintro (h | h | h)
      · exact .inl (.inr h)
      · exact .inl (.inl h.symm)
      · exact .inr h
theorem plc_asc (f : List Jp) : ∀ a : List Int, a.Pairwise (· < ·) → (plc a f).Pairwise (· < ·) := by
  induction f with
  | nil => intro a h; exact h
  | cons k r ih => intro a h; exact ih _ (ins_asc _ h)
theorem plc_length (f : List Jp) : ∀ a : List Int, a.Pairwise (· < ·) → (plc a f).length ≤ a.length + f.length := by
  induction f with
  | nil => intro a h; simp [plc]
  | cons k r ih =>
    intro a h
    have h1 := ih _ (ins_asc k.1 h)
    have h2 := ins_length a k.1 h
    rw [show plc a (k :: r) = plc (ins a k.1) r from rfl, List.length_cons]
    omega
theorem jv_between {f : List Jp} {s t : Int} (hst : s ≤ t) (h : ∀ j ∈ f, j.1 ≤ s ∨ t < j.1) : jv f s = jv f t := by
  induction f with
  | nil => rfl
  | cons a r ih =>
    rw [jv, jv, ih (fun j hj => h j (by simp [hj]))]
    rcases h a (by simp) with h1 | h1
    · rw [if_pos h1, if_pos (by omega)]
    · rw [if_neg (by omega), if_neg (by omega)]
/-- Is it a jump of a function? -/
def okJ (j : Jp) : Bool := decide (-1 ≤ j.1 ∧ j.1 < 1125899906842624 ∧ j.2 ≠ 0 ∧ j.2 ≤ 1048576 ∧ -1048576 ≤ j.2)
theorem okJ_iff {j : Jp} : okJ j = true ↔ -1 ≤ j.1 ∧ j.1 < 1125899906842624 ∧ j.2 ≠ 0 ∧ j.2 ≤ 1048576 ∧ -1048576 ≤ j.2 := by unfold okJ; rw [decide_eq_true_iff]
/-- Is it a function? -/
def mayJ (f : List Jp) : Bool := decide (f.length ≤ 1024) && (f.all okJ && decide (Asc f))
theorem mayJ_iff {f : List Jp} : mayJ f = true ↔ f.length ≤ 1024 ∧ (∀ j ∈ f, okJ j = true) ∧ Asc f := by
  unfold mayJ; rw [Bool.and_eq_true, Bool.and_eq_true, decide_eq_true_iff, decide_eq_true_iff, List.all_eq_true]
theorem mayJ_net {f : List Jp} (h : mayJ f = true) : ∀ j ∈ f, -1048576 ≤ j.2 ∧ j.2 ≤ 1048576 := fun j hj => by
  have := okJ_iff.1 ((mayJ_iff.1 h).2.1 j hj); omega
theorem mayJ_len {f : List Jp} (h : mayJ f = true) : f.length ≤ 1024 := (mayJ_iff.1 h).1
theorem mayJ_nil : mayJ [] = true := by decide
def kept (f : List Jp) : List Jp := if mayJ f then f else []
end Go.Proofs.Ytjdbjnpomndfjaa
set_option linter.unusedVariables false
set_option linter.unusedSimpArgs false
namespace Go.Proofs.Ytjdbjnpomndfjaa
open Go.RowKit
/-! ### Norm -/
def tooJ (j : Jp) : Bool := decide (1048576 < j.2 ∨ j.2 < -1048576)
/-! ### Two at once -/
def nxt : List Jp → Int
  | [] => 1125899906842624
  | j :: _ => j.1
/-- Two functions, gone through up to a place. -/
structure Comb (op : Int → Int → Int) (f1 f2 g1 g2 made : List Jp) : Prop where
  canon : Canon made
  lt : ∀ j ∈ made, j.1 < min (nxt f2) (nxt g2)
  l1 : ∀ j ∈ f1, j.1 < min (nxt f2) (nxt g2)
  l2 : ∀ j ∈ g1, j.1 < min (nxt f2) (nxt g2)
  sum : js made = op (js f1) (js g1)
  at' : ∀ t, t < min (nxt f2) (nxt g2) → jv made t = op (jv f1 t) (jv g1 t)
  len : made.length ≤ f1.length + g1.length
/-! ### The other sign; parts -/
/-! ### Values -/
def atV (f : List Jp) (t : Int) : Int := if mayJ f then jv f t else 0
def leF (f : List Jp) (m : Int) (g : List Jp) : Int := g.foldl (fun m j => min m (jv f j.1)) m
def leV (f : List Jp) : Int := if mayJ f then leF f (jv f (-1)) f else 0
theorem leF_snoc (f : List Jp) (m : Int) (g : List Jp) (j : Jp) : leF f m (g ++ [j]) = min (leF f m g) (jv f j.1) := by simp [leF]
/-- The sum behind a jump is the value there. -/
theorem js_at {f1 f2 : List Jp} {j : Jp} (h : Asc (f1 ++ j :: f2)) : js (f1 ++ [j]) = jv (f1 ++ j :: f2) j.1 := by
  have h1 := (List.pairwise_append.1 h).2.2
  have h2 := (List.pairwise_cons.1 (List.pairwise_append.1 h).2.1).1
  rw [jv_append, jv, if_pos (Int.le_refl _), jv_low h2, jv_high (fun a ha => Int.le_of_lt (h1 a ha j (by simp))), js_snoc]; omega
end Go.Proofs.Ytjdbjnpomndfjaa
