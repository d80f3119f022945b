/-
  A helper of ours: no claim of its own. Layer 24 (multi): lists only: each copy by itself, as the document has them.
-/
import Derived.Test.YtnneicdphlidhaaMulO
import Derived.Test.YtnneicdphlidhaaMulL
import Derived.Test.YtnneicdphlidhaaMulM
set_option linter.unusedVariables false
set_option linter.unusedSimpArgs false
namespace Go.Proofs.Ytnneicdphlidhaa
open Go.RowKit
/-- The copies, one by one. -/
def dup (l : List Tg) : List Int := l.flatMap fun p => List.replicate p.2.toNat p.1
theorem dup_app (a b : List Tg) : dup (a ++ b) = dup a ++ dup b := List.flatMap_append
theorem dup_cons (p : Tg) (r : List Tg) : dup (p :: r) = List.replicate p.2.toNat p.1 ++ dup r := rfl
theorem dup_len : ∀ (l : List Tg), (∀ x ∈ l, 1 ≤ x.2) → ((dup l).length : Int) = sumT l
  | [], _ => rfl
  | p :: r, h => by
    have h1 := h p (by simp)
    have h2 := dup_len r fun x hx => h x (by simp [hx])
    rw [dup_cons, List.length_append, List.length_replicate, sumT]
    push_cast
    omega
theorem dup_mem {l : List Tg} {x : Int} (h : x ∈ dup l) : ∃ p ∈ l, p.1 = x := by
  obtain ⟨p, hp, hx⟩ := List.mem_flatMap.1 h
  exact ⟨p, hp, (List.eq_of_mem_replicate hx).symm⟩
/-- How often k is there. -/
def cntZ (k : Int) : List Int → Int
  | [] => 0
  | x :: r => (if x = k then 1 else 0) + cntZ k r
theorem cntZ_app (k : Int) (a b : List Int) : cntZ k (a ++ b) = cntZ k a + cntZ k b := by
  induction a with
  | nil => simp [cntZ]
  | cons x r ih => rw [List.cons_append, cntZ, cntZ, ih]; omega
theorem cntZ_none {k : Int} : ∀ {a : List Int}, (∀ x ∈ a, x ≠ k) → cntZ k a = 0
  | [], _ => rfl
  | x :: r, h => by rw [cntZ, if_neg (h x (by simp)), cntZ_none fun y hy => h y (by simp [hy])]; rfl
theorem cntZ_rep (k : Int) (n : Nat) : cntZ k (List.replicate n k) = n := by
  induction n with
  | zero => rfl
  | succ n ih => rw [List.replicate_succ, cntZ, if_pos rfl, ih]; push_cast; omega
theorem cntZ_le (k : Int) : ∀ a : List Int, 0 ≤ cntZ k a ∧ cntZ k a ≤ a.length
  | [] => by simp [cntZ]
  | x :: r => by have := cntZ_le k r; rw [cntZ, List.length_cons]; split <;> omega
theorem cnt_dup {k : Int} {l : List Tg} {c : Int} (h : Good l c) : cntZ k (dup l) = ofT k l := by
  obtain ⟨a, r, rfl, hlt, ha, hcase⟩ := dec_at (k := k) h.rise
  have hna : ∀ x ∈ dup a, x ≠ k := fun x hx => by obtain ⟨p, hp, e⟩ := dup_mem hx; have := ha p hp; omega
  rw [dup_app, cntZ_app, cntZ_none hna]
  rcases hcase with ⟨n0, r', rfl, hof, -, hr'⟩ | ⟨hof, -, hr'⟩
  · have hn0 : 1 ≤ n0 := h.pos (k, n0) (by simp)
    have hnr : ∀ x ∈ dup r', x ≠ k := fun x hx => by obtain ⟨p, hp, e⟩ := dup_mem hx; have := hr' p hp; omega
    rw [dup_cons, cntZ_app, cntZ_none hnr, hof, cntZ_rep]
    simp only
    omega
  · have hnr : ∀ x ∈ dup r, x ≠ k := fun x hx => by obtain ⟨p, hp, e⟩ := dup_mem hx; have := hr' p hp; omega
    rw [cntZ_none hnr, hof]; rfl
/-- What the document's Put makes of copies. -/
def pdL (k : Int) (left : Nat) : Bool → List Int → List Int
  | d, [] => if d then [] else List.replicate left k
  | d, x :: r => (if !d && decide (k ≤ x) then List.replicate left k else []) ++ ((if x = k then [] else [x]) ++ pdL k left (d || decide (k ≤ x)) r)
theorem pdL_below {k : Int} {left : Nat} : ∀ {a b : List Int}, (∀ x ∈ a, x < k) → pdL k left false (a ++ b) = a ++ pdL k left false b
  | [], b, _ => rfl
  | x :: r, b, h => by
    have hx := h x (by simp)
    rw [List.cons_append, pdL, show decide (k ≤ x) = false from decide_eq_false (by omega), Bool.or_false, pdL_below fun y hy => h y (by simp [hy])]
    have hxk : x ≠ k := by omega
    simp [hxk]
theorem pdL_done {k : Int} {left : Nat} : ∀ {a : List Int}, (∀ x ∈ a, x ≠ k) → pdL k left true a = a
  | [], _ => rfl
  | x :: r, h => by rw [pdL, Bool.true_or, pdL_done fun y hy => h y (by simp [hy]), if_neg (h x (by simp))]; simp
theorem pdL_same {k : Int} {left : Nat} : ∀ (n : Nat) (b : List Int), pdL k left true (List.replicate n k ++ b) = pdL k left true b
  | 0, b => rfl
  | n + 1, b => by rw [List.replicate_succ, List.cons_append, pdL, Bool.true_or, pdL_same n b, if_pos rfl]; simp
theorem pdL_above {k : Int} {left : Nat} {b : List Int} (h : ∀ x ∈ b, k < x) : pdL k left false b = List.replicate left k ++ b := by
  cases b with
  | nil => simp [pdL]
  | cons x r =>
    have hx := h x (by simp)
    rw [pdL, show decide (k ≤ x) = true from decide_eq_true (by omega), Bool.or_true, pdL_done (a := r) fun y hy => by have := h y (by simp [hy]); omega]
    have hxk : x ≠ k := by omega
    simp [hxk]
theorem pd_dup {k n : Int} {l : List Tg} {c : Int} (h : Good l c) (he : putE k n l c = 0) : pdL k (ofT k l + n).toNat false (dup l) = dup (putL k n l c) := by
  obtain ⟨⟨hn1, hn2⟩, ho, hcn⟩ := putE_ok.1 he
  have hL : putL k n l c = chgT k (ofT k l) (ofT k l + n) (ltN k l) l := by unfold putL; rw [if_pos he]
  rw [hL]
  obtain ⟨a, r, rfl, hlt, ha, hcase⟩ := dec_at (k := k) h.rise
  have hba : ∀ x ∈ dup a, x < k := fun x hx => by obtain ⟨p, hp, e⟩ := dup_mem hx; have := ha p hp; omega
  rw [hlt, dup_app, pdL_below hba]
  rcases hcase with ⟨n0, r', rfl, hof, -, hr'⟩ | ⟨hof, -, hr'⟩
  · have hn0 : 1 ≤ n0 := h.pos (k, n0) (by simp)
    have hnr : ∀ x ∈ dup r', x ≠ k := fun x hx => by obtain ⟨p, hp, e⟩ := dup_mem hx; have := hr' p hp; omega
    rw [hof] at ho ⊢
    rw [chg_there (by omega), dup_cons]
    simp only
    obtain ⟨m, hm⟩ : ∃ m, n0.toNat = m + 1 := ⟨n0.toNat - 1, by omega⟩
    rw [hm, List.replicate_succ, List.cons_append, pdL, show decide (k ≤ k) = true from decide_eq_true (by omega), Bool.false_or, pdL_same, pdL_done hnr, if_pos rfl]
    by_cases hw : 0 < n0 + n
    · rw [if_pos hw, dup_app, dup_cons]; simp
    · rw [if_neg hw, dup_app, show (n0 + n).toNat = 0 by omega]; simp
  · have hnr : ∀ x ∈ dup r, k < x := fun x hx => by obtain ⟨p, hp, e⟩ := dup_mem hx; have := hr' p hp; omega
    rw [hof] at ho ⊢
    rw [chg_new, pdL_above hnr]
    by_cases hw : 0 < 0 + n
    · rw [if_pos hw, dup_app, dup_cons]
    · rw [if_neg hw, dup_app, show (0 + n).toNat = 0 by omega]; simp
/-- The document's copy with a number. -/
def nthZ (i : Int) (xs : List Int) : Int × Bool := if i < 0 ∨ (xs.length : Int) ≤ i then (0, false) else (xs.getD i.toNat 0, true)
theorem nthT_dup : ∀ (l : List Tg), (∀ x ∈ l, 1 ≤ x.2) → ∀ (i : Int), 0 ≤ i → i < sumT l → nthT i l = ((dup l).getD i.toNat 0, true)
  | [], _, i, h0, h1 => by simp [sumT] at h1; omega
  | p :: r, h, i, h0, h1 => by
    have hp := h p (by simp)
    obtain ⟨pk, pn⟩ := p
    rw [sumT] at h1
    simp only at hp h1
    rw [nthT, dup_cons]
    simp only
    by_cases hlt : i < pn
    · rw [if_pos hlt, List.getD_eq_getElem?_getD, List.getElem?_append_left (by rw [List.length_replicate]; omega), List.getElem?_replicate, if_pos (by omega)]
      rfl
    · rw [if_neg hlt, nthT_dup r (fun x hx => h x (by simp [hx])) (i - pn) (by omega) (by omega), List.getD_eq_getElem?_getD, List.getD_eq_getElem?_getD, List.getElem?_append_right (by rw [List.length_replicate]; omega), List.length_replicate, show i.toNat - pn.toNat = (i - pn).toNat by omega]
theorem nth_dup {i : Int} {l : List Tg} {c : Int} (h : Good l c) : nthR i l c = nthZ i (dup l) := by
  have hl := dup_len l h.pos
  unfold nthR nthZ
  rw [hl, ← h.sum]
  by_cases h0 : i < 0 ∨ c ≤ i
  · rw [if_pos h0, if_pos h0]
  · rw [if_neg h0, if_neg h0]
    exact nthT_dup l h.pos i (by omega) (by have := h.sum; omega)
theorem last_dup {l : List Tg} {c : Int} (h : Good l c) : lastT l c = nthZ (c - 1) (dup l) := by
  by_cases hc : c = 0
  · subst hc; unfold lastT nthZ; rw [if_pos rfl, if_pos (.inl (by omega))]
  · rcases List.eq_nil_or_concat l with rfl | ⟨a, p, hap⟩
    · exact absurd h.sum hc
    · rw [List.concat_eq_append] at hap
      subst hap
      have hp := h.pos p (by simp)
      have hl := dup_len (a ++ [p]) h.pos
      have hla := dup_len a fun x hx => h.pos x (by simp [hx])
      have hs := h.sum
      have hn := len_sum a fun x hx => h.pos x (by simp [hx])
      have e : sumT (a ++ [p]) = sumT a + p.2 := by rw [sumT_app]; simp [sumT]
      unfold lastT nthZ
      rw [if_neg hc, if_neg (by omega), dup_app, List.getD_eq_getElem?_getD, List.getElem?_append_right (by omega), dup_cons, show dup [] = [] from rfl, List.append_nil, List.getElem?_replicate, if_pos (by omega)]
      simp
end Go.Proofs.Ytnneicdphlidhaa
