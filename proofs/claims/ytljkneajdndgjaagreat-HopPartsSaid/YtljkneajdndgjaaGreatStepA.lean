/-
  A helper of ours: no claim of its own. Layer 9 (step): jumps where they lie; what is a step function, on both sides.
-/
import Derived.Test.YtljkneajdndgjaaGreatMem
import Derived.ChangeSlices
import Derived.Deep.SlicePairs
import Derived.Deep.Matrix
import Derived.SizedLaws
import Derived.Test.YtljkneajdndgjaaGreatRows
import Derived.Handy
import Derived.WalkSpells
import Derived.WalkSmall
import Derived.Deep.LoopGhost
import Derived.BigQuiet
import Derived.WalkLawsBesides
set_option linter.unusedVariables false
set_option linter.unusedSimpArgs false
namespace Go.Proofs.YtljkneajdndgjaaGreat
open Go.RowKit
/-- A slice of one's own, from some place of its block on: it may be cut from the front, and appended to. -/
def OwnO (w : World) (base e size : Nat) (v : Value) (n : Nat) (xs : List Value) : Prop :=
  xs.length = n * size ∧ ((v = .slice none 0 0 ∧ n = 0) ∨ ∃ g o cap cur, v = .slice (some ⟨g, o, none⟩) n cap ∧ base ≤ g ∧ w.heap[g]? = some (.cells cur e (0, 0)) ∧ n ≤ cap ∧ cap ≤ maxLen ∧ o + cap * size ≤ cur.size ∧ (cur.toList.drop o).take (n * size) = xs)
section
variable {w w' : World} {base e size n : Nat} {v : Value} {xs : List Value}
end
section
variable {P : Program} {w : World}
end
end Go.Proofs.YtljkneajdndgjaaGreat
set_option linter.unusedVariables false
set_option linter.unusedSimpArgs false
namespace Go.Proofs.YtljkneajdndgjaaGreat
open Go.RowKit
/-- A jump: where, and by how much. -/
abbrev Jp := Int × Int
/-- The sum of the jumps that are not above t. -/
def jv : List Jp → Int → Int
  | [], _ => 0
  | j :: r, t => (if j.1 ≤ t then j.2 else 0) + jv r t
/-- The sum of all. -/
def js : List Jp → Int
  | [] => 0
  | j :: r => j.2 + js r
theorem jv_append (f g : List Jp) (t : Int) : jv (f ++ g) t = jv f t + jv g t := by
  induction f with
  | nil => simp [jv]
  | cons a r ih => simp only [List.cons_append, jv, ih]; omega
theorem js_append (f g : List Jp) : js (f ++ g) = js f + js g := by
  induction f with
  | nil => simp [js]
  | cons a r ih => simp only [List.cons_append, js, ih]; omega
theorem jv_snoc (f : List Jp) (j : Jp) (t : Int) : jv (f ++ [j]) t = jv f t + (if j.1 ≤ t then j.2 else 0) := by rw [jv_append]; simp [jv]
theorem js_snoc (f : List Jp) (j : Jp) : js (f ++ [j]) = js f + j.2 := by rw [js_append]; simp [js]
theorem jv_low {f : List Jp} {t : Int} (h : ∀ j ∈ f, t < j.1) : jv f t = 0 := by
  induction f with
  | nil => rfl
  | cons a r ih =>
    have := h a (by simp)
    rw [jv, if_neg (by omega), ih (fun j hj => h j (by simp [hj]))]; omega
theorem jv_high {f : List Jp} {t : Int} (h : ∀ j ∈ f, j.1 ≤ t) : jv f t = js f := by
  induction f with
  | nil => rfl
  | cons a r ih => rw [jv, js, if_pos (h a (by simp)), ih (fun j hj => h j (by simp [hj]))]
theorem jv_bound {f : List Jp} {K : Int} (hK : 0 ≤ K) (h : ∀ j ∈ f, -K ≤ j.2 ∧ j.2 ≤ K) (t : Int) : -(K * f.length) ≤ jv f t ∧ jv f t ≤ K * f.length := by
  induction f with
  | nil => simp [jv]
  | cons a r ih =>
    have h1 := ih (fun j hj => h j (by simp [hj]))
    have h2 := h a (by simp)
    have e : K * ((a :: r).length : Int) = K * (r.length : Int) + K := by rw [List.length_cons]; push_cast; rw [Int.mul_add, Int.mul_one]
    rw [e, jv]
    generalize K * (r.length : Int) = z at *
    split <;> omega
theorem js_bound {f : List Jp} {K : Int} (hK : 0 ≤ K) (h : ∀ j ∈ f, -K ≤ j.2 ∧ j.2 ≤ K) : -(K * f.length) ≤ js f ∧ js f ≤ K * f.length := by
  induction f with
  | nil => simp [js]
  | cons a r ih =>
    have h1 := ih (fun j hj => h j (by simp [hj]))
    have h2 := h a (by simp)
    have e : K * ((a :: r).length : Int) = K * (r.length : Int) + K := by rw [List.length_cons]; push_cast; rw [Int.mul_add, Int.mul_one]
    rw [e, js]
    generalize K * (r.length : Int) = z at *
    omega
/-- Rising. -/
abbrev Asc (f : List Jp) : Prop := f.Pairwise fun a b => a.1 < b.1
/-- In the one form. -/
def Canon (f : List Jp) : Prop := Asc f ∧ ∀ j ∈ f, j.2 ≠ 0
/-- A place more, where it belongs. -/
def ins (l : List Int) (t : Int) : List Int := if t ∈ l then l else l.filter (fun x => decide (x < t)) ++ t :: l.filter (fun x => decide (t < x))
theorem ins_mem (l : List Int) (t x : Int) : x ∈ ins l t ↔ x = t ∨ x ∈ l := by
  unfold ins
  split
  · rename_i h
    constructor
    · exact .inr
    · rintro (rfl | h')
      · exact h
      · exact h'
  · simp only [List.mem_append, List.mem_cons, List.mem_filter, decide_eq_true_eq]
    constructor
    · rintro (⟨h1, _⟩ | rfl | ⟨h1, _⟩)
      · exact .inr h1
      · exact .inl rfl
      · exact .inr h1
    · rintro (rfl | h1)
      · exact .inr (.inl rfl)
      · rcases Int.lt_trichotomy x t with h | h | h
        · exact .inl ⟨h1, h⟩
        · exact .inr (.inl h)
        · exact .inr (.inr ⟨h1, h⟩)
theorem ins_asc {l : List Int} (t : Int) (h : l.Pairwise (· < ·)) : (ins l t).Pairwise (· < ·) := by
  unfold ins
  split
  · exact h
  · refine List.pairwise_append.2 ⟨h.sublist List.filter_sublist, List.pairwise_cons.2 ⟨fun a ha => ?_, h.sublist List.filter_sublist⟩, fun a ha b hb => ?_⟩
    · simp only [List.mem_filter, decide_eq_true_eq] at ha; exact ha.2
    · simp only [List.mem_filter, decide_eq_true_eq, List.mem_cons] at ha hb
      rcases hb with rfl | hb
      · exact ha.2
      · omega
theorem ins_length (l : List Int) (t : Int) (h : l.Pairwise (· < ·)) : (ins l t).length ≤ l.length + 1 := by
  unfold ins
  split
  · omega
  · rw [List.length_append, List.length_cons]
    have : ∀ m : List Int, (m.filter (fun x => decide (x < t))).length + (m.filter (fun x => decide (t < x))).length ≤ m.length := by
      intro m
      induction m with
      | nil => simp
      | cons a r ih =>
        simp only [List.filter_cons]
        split <;> split <;> simp only [List.length_cons, decide_eq_true_eq] at * <;> omega
    have := this l
    omega
/-- The places of jumps, rising, beside those that are there. -/
def plc (a : List Int) (f : List Jp) : List Int := f.foldl (fun a j => ins a j.1) a
theorem plc_snoc (a : List Int) (f : List Jp) (j : Jp) : plc a (f ++ [j]) = ins (plc a f) j.1 := by simp [plc]
theorem plc_asc (f : List Jp) : ∀ a : List Int, a.Pairwise (· < ·) → (plc a f).Pairwise (· < ·) := by
  induction f with
  | nil => intro a h; exact h
  | cons k r ih => intro a h; exact ih _ (ins_asc _ h)
theorem plc_length (f : List Jp) : ∀ a : List Int, a.Pairwise (· < ·) → (plc a f).length ≤ a.length + f.length := by
  induction f with
  | nil => intro a h; simp [plc]
  | cons k r ih =>
    intro a h
    have h1 := ih _ (ins_asc k.1 h)
    have h2 := ins_length a k.1 h
    rw [show plc a (k :: r) = plc (ins a k.1) r from rfl, List.length_cons]
    omega
theorem jv_between {f : List Jp} {s t : Int} (hst : s ≤ t) (h : ∀ j ∈ f, j.1 ≤ s ∨ t < j.1) : jv f s = jv f t := by
  induction f with
  | nil => rfl
  | cons a r ih =>
    rw [jv, jv, ih (fun j hj => h j (by simp [hj]))]
    rcases h a (by simp) with h1 | h1
    · rw [if_pos h1, if_pos (by omega)]
    · rw [if_neg (by omega), if_neg (by omega)]
/-- Is it a jump of a function? -/
def okJ (j : Jp) : Bool := decide (-1 ≤ j.1 ∧ j.1 < 1125899906842624 ∧ j.2 ≠ 0 ∧ j.2 ≤ 1048576 ∧ -1048576 ≤ j.2)
theorem okJ_iff {j : Jp} : okJ j = true ↔ -1 ≤ j.1 ∧ j.1 < 1125899906842624 ∧ j.2 ≠ 0 ∧ j.2 ≤ 1048576 ∧ -1048576 ≤ j.2 := by unfold okJ; rw [decide_eq_true_iff]
/-- Is it a function? -/
def mayJ (f : List Jp) : Bool := decide (f.length ≤ 1024) && (f.all okJ && decide (Asc f))
theorem mayJ_iff {f : List Jp} : mayJ f = true ↔ f.length ≤ 1024 ∧ (∀ j ∈ f, okJ j = true) ∧ Asc f := by
  unfold mayJ; rw [Bool.and_eq_true, Bool.and_eq_true, decide_eq_true_iff, decide_eq_true_iff, List.all_eq_true]
theorem mayJ_net {f : List Jp} (h : mayJ f = true) : ∀ j ∈ f, -1048576 ≤ j.2 ∧ j.2 ≤ 1048576 := fun j hj => by
  have := okJ_iff.1 ((mayJ_iff.1 h).2.1 j hj); omega
theorem mayJ_at {f : List Jp} (h : mayJ f = true) : ∀ j ∈ f, -1 ≤ j.1 ∧ j.1 < 1125899906842624 := fun j hj => by
  have := okJ_iff.1 ((mayJ_iff.1 h).2.1 j hj); omega
theorem mayJ_len {f : List Jp} (h : mayJ f = true) : f.length ≤ 1024 := (mayJ_iff.1 h).1
theorem mayJ_jv {f : List Jp} (h : mayJ f = true) (t : Int) : -1073741824 ≤ jv f t ∧ jv f t ≤ 1073741824 := by
  have h1 := jv_bound (K := 1048576) (by omega) (mayJ_net h) t
  have h2 := mayJ_len h
  omega
theorem mayJ_nil : mayJ [] = true := by decide
def kept (f : List Jp) : List Jp := if mayJ f then f else []
end Go.Proofs.YtljkneajdndgjaaGreat
set_option linter.unusedVariables false
set_option linter.unusedSimpArgs false
namespace Go.Proofs.YtljkneajdndgjaaGreat
open Go.RowKit
/-! ### Norm -/
def tooJ (j : Jp) : Bool := decide (1048576 < j.2 ∨ j.2 < -1048576)
/-! ### Two at once -/
def nxt : List Jp → Int
  | [] => 1125899906842624
  | j :: _ => j.1
/-- Two functions, gone through up to a place. -/
structure Comb (op : Int → Int → Int) (f1 f2 g1 g2 made : List Jp) : Prop where
  canon : Canon made
  lt : ∀ j ∈ made, j.1 < min (nxt f2) (nxt g2)
  l1 : ∀ j ∈ f1, j.1 < min (nxt f2) (nxt g2)
  l2 : ∀ j ∈ g1, j.1 < min (nxt f2) (nxt g2)
  sum : js made = op (js f1) (js g1)
  at' : ∀ t, t < min (nxt f2) (nxt g2) → jv made t = op (jv f1 t) (jv g1 t)
  len : made.length ≤ f1.length + g1.length
/-! ### The other sign; parts -/
/-! ### Values -/
def atV (f : List Jp) (t : Int) : Int := if mayJ f then jv f t else 0
def leF (f : List Jp) (m : Int) (g : List Jp) : Int := g.foldl (fun m j => min m (jv f j.1)) m
def leV (f : List Jp) : Int := if mayJ f then leF f (jv f (-1)) f else 0
theorem leF_snoc (f : List Jp) (m : Int) (g : List Jp) (j : Jp) : leF f m (g ++ [j]) = min (leF f m g) (jv f j.1) := by simp [leF]
/-- The sum behind a jump is the value there. -/
theorem js_at {f1 f2 : List Jp} {j : Jp} (h : Asc (f1 ++ j :: f2)) : js (f1 ++ [j]) = jv (f1 ++ j :: f2) j.1 := by
  have h1 := (List.pairwise_append.1 h).2.2
  have h2 := (List.pairwise_cons.1 (List.pairwise_append.1 h).2.1).1
  rw [jv_append, jv, if_pos (Int.le_refl _), jv_low h2, jv_high (fun a ha => Int.le_of_lt (h1 a ha j (by simp))), js_snoc]; omega
end Go.Proofs.YtljkneajdndgjaaGreat
set_option linter.unusedVariables false
set_option linter.unusedSimpArgs false
namespace Go.Proofs.YtljkneajdndgjaaGreat
open Go.RowKit
/-- A lifetime. -/
abbrev Sp := Int × Int
def begL (f : List Jp) : List Int := f.flatMap fun j => List.replicate j.2.toNat j.1
def endL (f : List Jp) : List Int := f.flatMap fun j => List.replicate (-j.2).toNat j.1
theorem begL_snoc (f : List Jp) (j : Jp) : begL (f ++ [j]) = begL f ++ List.replicate j.2.toNat j.1 := by simp [begL]
theorem endL_snoc (f : List Jp) (j : Jp) : endL (f ++ [j]) = endL f ++ List.replicate (-j.2).toNat j.1 := by simp [endL]
/-- How many begin. -/
def cntJ (f : List Jp) : Int := (begL f).length
theorem cntJ_snoc (f : List Jp) (j : Jp) : cntJ (f ++ [j]) = cntJ f + max j.2 0 := by
  unfold cntJ
  rw [begL_snoc, List.length_append, List.length_replicate]
  omega
theorem cntJ_le {f : List Jp} (h : ∀ j ∈ f, j.2 ≤ 1048576) : cntJ f ≤ 1048576 * f.length := by
  induction f with
  | nil => simp [cntJ, begL]
  | cons a r ih =>
    have h1 := ih fun j hj => h j (by simp [hj])
    have h2 := h a (by simp)
    unfold cntJ at h1 ⊢
    unfold begL at h1 ⊢
    rw [List.flatMap_cons, List.length_append, List.length_replicate, List.length_cons]
    omega
theorem len_js (f : List Jp) : ((begL f).length : Int) - (endL f).length = js f := by
  induction f with
  | nil => simp [begL, endL, js]
  | cons a r ih =>
    unfold begL endL at ih ⊢
    rw [List.flatMap_cons, List.flatMap_cons, List.length_append, List.length_append, List.length_replicate, List.length_replicate, js]
    omega
/-- The least value is met nowhere by less. -/
theorem leF_le (f : List Jp) : ∀ (g : List Jp) (m : Int), leF f m g ≤ m ∧ ∀ j ∈ g, leF f m g ≤ jv f j.1
  | [], m => ⟨Int.le_refl _, by simp⟩
  | a :: g, m => by
    obtain ⟨h1, h2⟩ := leF_le f g (min m (jv f a.1))
    have e : leF f m (a :: g) = leF f (min m (jv f a.1)) g := rfl
    rw [e]
    refine ⟨by omega, fun j hj => ?_⟩
    rcases List.mem_cons.1 hj with rfl | hj
    · omega
    · exact h2 j hj
/-- Ahead of each place of a function that is nowhere below 0 no more have ended than have begun. -/
theorem pre_ends {f : List Jp} (hm : mayJ f = true) (h0 : 0 ≤ leV f) (k : Nat) : (endL (f.take k)).length ≤ (begL (f.take k)).length := by
  have hj := len_js (f.take k)
  suffices 0 ≤ js (f.take k) by omega
  have hasc := (mayJ_iff.1 hm).2.2
  unfold leV at h0
  rw [if_pos hm] at h0
  rcases Nat.eq_zero_or_pos k with rfl | hk
  · simp [js]
  rcases Nat.lt_or_ge (k - 1) f.length with hlt | hge
  · obtain ⟨j, hx⟩ : ∃ j, f[k - 1]? = some j := ⟨_, List.getElem?_eq_getElem hlt⟩
    have et : f.take k = f.take (k - 1) ++ [j] := by
      have : k = k - 1 + 1 := by omega
      rw [this, List.take_add_one, hx]; simp
    have ef : f = f.take (k - 1) ++ j :: f.drop k := by
      have h1 := List.take_append_drop (k - 1) f
      have h2 : f.drop (k - 1) = j :: f.drop k := by
        rw [List.drop_eq_getElem_cons hlt]
        have h3 := List.getElem?_eq_getElem hlt
        rw [hx] at h3
        rw [show k - 1 + 1 = k by omega]
        congr 1
        exact (Option.some.inj h3).symm
      rw [h2] at h1
      exact h1.symm
    have hjs := js_at (f1 := f.take (k - 1)) (j := j) (f2 := f.drop k) (by rw [← ef]; exact hasc)
    rw [et, hjs, ← ef]
    have := (leF_le f f (jv f (-1))).2 j (List.mem_of_getElem? hx)
    omega
  · have e1 : f.take k = f := List.take_of_length_le (by omega)
    rw [e1]
    rcases hf : f.reverse with _ | ⟨j, r⟩
    · have : f = [] := by simpa using hf
      rw [this]; simp [js]
    · have ef : f = r.reverse ++ [j] := by rw [← List.reverse_reverse f, hf]; simp
      have hjs := js_at (f1 := r.reverse) (j := j) (f2 := []) (by rw [← ef]; exact hasc)
      rw [← ef] at hjs
      rw [hjs]
      have := (leF_le f f (jv f (-1))).2 j (by rw [ef]; simp)
      omega
/-- The k-th beginning with the k-th end; what has no end has the last one of all. -/
def spL : List Int → List Int → List Sp
  | [], _ => []
  | x :: b, [] => (x, 1125899906842624) :: spL b []
  | x :: b, y :: e => (x, y) :: spL b e
theorem spL_length : ∀ b e : List Int, (spL b e).length = b.length
  | [], _ => rfl
  | x :: b, [] => by rw [spL, List.length_cons, List.length_cons, spL_length b []]
  | x :: b, y :: e => by rw [spL, List.length_cons, List.length_cons, spL_length b e]
theorem spL_get : ∀ (b e : List Int) (i : Nat) (x : Int), b[i]? = some x → (spL b e)[i]? = some (x, (e[i]?).getD 1125899906842624)
  | y :: b, [], 0, x, h => by simp at h; subst h; rfl
  | y :: b, z :: e, 0, x, h => by simp at h; subst h; rfl
  | y :: b, [], i + 1, x, h => by
    have := spL_get b [] i x (by simpa using h)
    simpa [spL] using this
  | y :: b, z :: e, i + 1, x, h => by
    have := spL_get b e i x (by simpa using h)
    simpa [spL] using this
/-- A function's lifetimes. -/
def lifeL (f : List Jp) : List Sp := spL (begL f) (endL f)
/-- What is wrong with a function whose lifetimes are asked for; they. -/
def spE (f : List Jp) : Int := if mayJ f then (if leV f < 0 then 20 else if 4096 < cntJ f then 7 else 0) else 2
def spR (f : List Jp) : List Sp := if spE f = 0 then lifeL f else []
end Go.Proofs.YtljkneajdndgjaaGreat
set_option linter.unusedVariables false
set_option linter.unusedSimpArgs false
namespace Go.Proofs.YtljkneajdndgjaaGreat
open Go.RowKit
end Go.Proofs.YtljkneajdndgjaaGreat
set_option linter.unusedVariables false
set_option linter.unusedSimpArgs false
namespace Go.Proofs.YtljkneajdndgjaaGreat
open Go.RowKit Go.Deep Go.ChangeShapes

section
variable {H : Type} {enc : TypeId × Value → H} {P : Program} {w : World} {base fuel : Nat} {held : Bool}
theorem addr_plain {a : Addr} {i : Nat} {v : Value} (h : w.cell? (a.add i) = some v) (h0 : i = 0) : ∃ b o, a = ⟨b, o, none⟩ := by
  subst h0
  have := World.cell?_spot h
  obtain ⟨b, o, s⟩ := a
  simp [Addr.add] at this
  subst this
  exact ⟨b, o, rfl⟩
theorem wf_i64 {z : Int} (h : (Lit.int .i64 z).wf = true) : -9223372036854775808 ≤ z ∧ z ≤ 9223372036854775807 := by simpa [Lit.wf, IntKind.min, IntKind.max, IntKind.bits, IntKind.signed] using h

/-- How many elements a reading of a slice has, and no spare beyond. -/
def sliceLen : DataW H → Nat
  | .slice elems spare => elems.length
  | _ => 0

/-- Pairs of numbers as cells. -/
def ps (l : List (Int × Int)) : List Value := l.flatMap fun p => [.int .i64 p.1, .int .i64 p.2]
theorem ps_get : ∀ (l : List (Int × Int)) (i : Nat) (p : Int × Int), l[i]? = some p → (ps l)[i * 2]? = some (.int .i64 p.1) ∧ (ps l)[i * 2 + 1]? = some (.int .i64 p.2)
  | q :: r, 0, p, h => by simp at h; subst h; exact ⟨rfl, rfl⟩
  | q :: r, i + 1, p, h => by
    have := ps_get r i p (by simpa using h)
    rw [show (i + 1) * 2 = i * 2 + 1 + 1 by omega]
    simpa [ps] using this
end
end Go.Proofs.YtljkneajdndgjaaGreat
set_option linter.unusedVariables false
set_option linter.unusedSimpArgs false
namespace Go.Proofs.YtljkneajdndgjaaGreat
open Go.RowKit
attribute [local go_sem] GW.cell GW.frozen In.eq_true In.le_true In.ne In.ne' In.ne_add In.ne_add' In.lt_add Upto.le_true Upto.le_add Upto.lt_add
theorem ps_append (l m : List Jp) : ps (l ++ m) = ps l ++ ps m := by simp [ps]
theorem ps_one (l : List Jp) : ∀ u ∈ ps l, u.oneCell' = true := by
  intro u hu
  simp only [ps, List.mem_flatMap] at hu
  obtain ⟨a, _, hu⟩ := hu
  simp at hu
  rcases hu with rfl | rfl <;> rfl
/-- Jumps, where they lie. -/
abbrev Jw (w : World) (S : List Nat) (v : Value) (l : List Jp) : Prop := Sl w S 2 v l.length (ps l)
abbrev OwnJ (w : World) (base : Nat) (v : Value) (l : List Jp) : Prop := w.ownsRow base 125 2 v l.length (ps l)
theorem jw_form {w : World} {S : List Nat} {v : Value} {l : List Jp} (h : Jw w S v l) : ∃ A cap, v = .slice A l.length cap ∧ l.length ≤ cap ∧ cap ≤ maxLen ∧
    ∀ (i : Nat) (x : Jp), l[i]? = some x → ∃ b o, A = some ⟨b, o, none⟩ ∧ b ∉ S ∧ b < w.heap.size ∧ w.cell? ⟨b, o + i * 2, none⟩ = some (.int .i64 x.1) ∧ w.cell? ⟨b, o + i * 2 + 1, none⟩ = some (.int .i64 x.2) := by
  obtain ⟨A, cap, rfl, h1, h2, h3, h4⟩ := h
  refine ⟨A, cap, rfl, h1, h2, fun i x hx => ?_⟩
  obtain ⟨g0, g1⟩ := ps_get l i x hx
  rcases h4 with h4 | ⟨b, o, rfl, hb, hc⟩
  · rw [h4] at g0; cases g0
  · have c0 := hc _ _ g0
    have c1 := hc _ _ g1
    exact ⟨b, o, rfl, hb, block_lt_of_cell c0, c0, c1⟩
theorem jcell_later {w wr : World} (h : Ext w wr) {b o : Nat} {u : Value} (hc : w.cell? ⟨b, o, none⟩ = some u) : wr.cell? ⟨b, o, none⟩ = some u :=
  (World.cell?_of_block (a := ⟨b, o, none⟩) (h.block b (block_lt_of_cell hc))).trans hc
theorem jdrop_cons {α : Type} {l : List α} {k : Nat} {x : α} (h : l[k]? = some x) : l.drop k = x :: l.drop (k + 1) := by
  have hk := (List.getElem?_eq_some_iff.1 h).1
  rw [List.drop_eq_getElem_cons hk]
  rw [List.getElem?_eq_getElem hk] at h
  rw [Option.some.inj h]
theorem take_snoc {α : Type} {l : List α} {k : Nat} {x : α} (h : l[k]? = some x) : l.take (k + 1) = l.take k ++ [x] := by
  rw [List.take_add_one, h]; rfl
theorem tJmp : ElemT Tryz.prog 73 125 (.agg #[.int .i64 0, .int .i64 0]) 2 16 := ElemT.mk' Tryz.underlying73 (by kernel_rfl) rfl (by omega)
theorem own_appJ {w : World} {B : Nat} {v : Value} {l m : List Jp} (h : w.ownsRow B 125 2 v (l.length + m.length) (ps l ++ ps m)) : OwnJ w B v (l ++ m) := by
  unfold OwnJ; rw [List.length_append, ps_append]; exact h
theorem own_jw {w : World} {B : Nat} {S : List Nat} {v : Value} {l : List Jp} (h : OwnJ w B v l) (hs : ∀ b, b ∈ S → b < B) : Jw w S v l := Sl.own h hs
/-- A jump by value. -/
abbrev jm (x : Jp) : Value := .agg #[.int .i64 x.1, .int .i64 x.2]
theorem src_jmp {P : Program} {tx e' : TypeId} (hk : P.underlying tx = some (.slice e')) (w : World) (x : Jp) (E : TypeId) : Src P 2 tx (.slice (some ⟨w.heap.size, 0, none⟩) 1 1) 1 (ps [x]) (w.alloc (.cells #[.int .i64 x.1, .int .i64 x.2] E)) :=
  Src.ofSlice _ hk _ 1 1 (ps [x]) (by simp [ps]) (fun j u hj => by
    have hj' : j < 2 := by
      have := (List.getElem?_eq_some_iff.1 hj).1
      simpa [ps] using this
    have hh := (Ob.new w E [.int .i64 x.1, .int .i64 x.2]).cell j hj
    rw [show (⟨w.heap.size, 0, none⟩ : Addr).add j = ⟨w.heap.size, j, none⟩ by rw [add_plain]; simp]
    exact hh) (by
    intro u hu
    exact ps_one [x] u hu)
def instB (t : Int) : Bool := decide (-1 ≤ t ∧ t < 1125899906842624)
theorem inst_yes {t : Int} (h : instB t = true) : -1 ≤ t ∧ t < 1125899906842624 := by unfold instB at h; simpa using h
theorem inst_no {t : Int} (h : instB t = false) : t < -1 ∨ (-1 ≤ t ∧ 1125899906842624 ≤ t) := by unfold instB at h; rw [decide_eq_false_iff_not] at h; omega
set_option maxHeartbeats 1000000 in
theorem isInstant_c (t : Int) (w : World) : Calls Tryz.prog 143 #[.int .i64 t] w fun e w' => e = .returned (.bool (instB t)) ∧ Ext w w' := by
  cases h : instB t
  · rcases inst_no h with h1 | ⟨h1, h2⟩
    · clear h
      go_enter Tryz.func143, Tryz.ntmps143
      go_wp2_with fail
      go_returns
      exact ⟨rfl, Ext.refl w⟩
    · have h3 : decide (t < 1125899906842624) = false := by rw [decide_eq_false_iff_not]; omega
      clear h h2
      go_enter Tryz.func143, Tryz.ntmps143
      go_wp2_with fail
      go_returns
      exact ⟨rfl, Ext.refl w⟩
  · obtain ⟨h1, h2⟩ := inst_yes h
    clear h
    go_enter Tryz.func143, Tryz.ntmps143
    go_wp2_with fail
    go_returns
    exact ⟨rfl, Ext.refl w⟩
set_option maxHeartbeats 1000000 in
theorem isTooGreat_c (x : Jp) (w : World) : Calls Tryz.prog 127 #[jm x] w fun e w' => e = .returned (.bool (tooJ x)) ∧ Ext w w' := by
  obtain ⟨p, n⟩ := x
  obtain ⟨R, hR⟩ : ∃ R, R = tooJ (p, n) := ⟨_, rfl⟩
  rw [← hR]
  unfold tooJ at hR
  by_cases h1 : 1048576 < n
  · have e : R = true := by rw [hR, decide_eq_true_iff]; exact .inl h1
    subst e
    clear hR
    go_enter Tryz.func127, Tryz.ntmps127
    go_wp2_with fail
    go_returns
    exact ⟨rfl, (Ext.refl w).alloc _⟩
  · have h1' : n ≤ 1048576 := by omega
    by_cases h2 : n < -1048576
    · have e : R = true := by rw [hR, decide_eq_true_iff]; exact .inr h2
      subst e
      clear hR h1
      go_enter Tryz.func127, Tryz.ntmps127
      go_wp2_with fail
      go_returns
      exact ⟨rfl, (Ext.refl w).alloc _⟩
    · have e : R = false := by rw [hR, decide_eq_false_iff_not]; simp only; omega
      have h2' : decide (n < -1048576) = false := by rw [decide_eq_false_iff_not]; exact h2
      have h1'' : decide (1048576 < n) = false := by rw [decide_eq_false_iff_not]; exact h1
      subst e
      clear hR h1 h2
      go_enter Tryz.func127, Tryz.ntmps127
      go_wp2_with fail
      go_returns
      exact ⟨rfl, (Ext.refl w).alloc _⟩
end Go.Proofs.YtljkneajdndgjaaGreat
