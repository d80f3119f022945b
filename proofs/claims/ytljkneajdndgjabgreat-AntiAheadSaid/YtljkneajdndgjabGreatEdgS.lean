/-
  A helper of ours: no claim of its own. Layer 10 (edge): edges as lists: rows that have edges, each row's jumps, runs of one row; what is in form; what is made row by row. No program in it.
-/
import Derived.Test.YtljkneajdndgjabGreatRowA
import Derived.Test.YtljkneajdndgjabGreatStepT
set_option linter.unusedVariables false
set_option linter.unusedSimpArgs false
namespace Go.Proofs.YtljkneajdndgjabGreat
open Go.RowKit
/-- An edge: its row, where, by how much. -/
abbrev Ed := List Vl × Jp
abbrev Gp := List Vl × List Jp
/-- Two lists that rise and have the same things are one. -/
theorem asc_unique {α : Type} {R : α → α → Prop} (irr : ∀ a, ¬ R a a) (asym : ∀ a b, R a b → R b a → False) : ∀ l m : List α, l.Pairwise R → m.Pairwise R → (∀ x, x ∈ l ↔ x ∈ m) → l = m
  | [], [], _, _, _ => rfl
  | [], y :: m, _, _, h => by have := (h y).2 (by simp); simp at this
  | x :: l, [], _, _, h => by have := (h x).1 (by simp); simp at this
  | x :: l, y :: m, hl, hm, h => by
    have hl' := List.pairwise_cons.1 hl
    have hm' := List.pairwise_cons.1 hm
    have e : x = y := by
      rcases List.mem_cons.1 ((h x).1 (by simp)) with e | hx
      · exact e
      · rcases List.mem_cons.1 ((h y).2 (by simp)) with e | hy
        · exact e.symm
        · exact (asym _ _ (hm'.1 x hx) (hl'.1 y hy)).elim
    subst e
    congr 1
    refine asc_unique irr asym l m hl'.2 hm'.2 fun z => ⟨fun hz => ?_, fun hz => ?_⟩
    · rcases List.mem_cons.1 ((h z).1 (by simp [hz])) with rfl | hz'
      · exact absurd (hl'.1 z hz) (irr z)
      · exact hz'
    · rcases List.mem_cons.1 ((h z).2 (by simp [hz])) with rfl | hz'
      · exact absurd (hm'.1 z hz) (irr z)
      · exact hz'
/-- A row ahead of another; both are rows. -/
def rlt (a b : List Vl) : Prop := (mayR a = true ∧ mayR b = true) ∧ cmpT a b < 0
theorem cmpT_self {a : List Vl} (h : mayR a = true) : cmpT a a = 0 := (cmpT_zero a a (mayR_iff.1 h).2 (mayR_iff.1 h).2).2 rfl
theorem rlt_irr (a : List Vl) : ¬ rlt a a := fun h => by have := cmpT_self h.1.1; have := h.2; omega
theorem rlt_asym (a b : List Vl) (h : rlt a b) (k : rlt b a) : False := by have := cmpT_swap a b; have := h.2; have := k.2; omega
theorem rlt_trans {a b c : List Vl} (h : rlt a b) (k : rlt b c) : rlt a c := by
  have := cmpT_trans a b c (mayR_iff.1 h.1.1).2 (mayR_iff.1 h.1.2).2 (mayR_iff.1 k.1.2).2 (by have := h.2; omega) (by have := k.2; omega)
  exact ⟨⟨h.1.1, k.1.2⟩, by have := h.2; have := k.2; omega⟩
theorem rlt_ne {a b : List Vl} (h : rlt a b) : a ≠ b := fun e => by subst e; exact rlt_irr a h
theorem row_eq {a b : List Vl} (ha : mayR a = true) (hb : mayR b = true) : cmpT a b = 0 ↔ a = b := cmpT_zero a b (mayR_iff.1 ha).2 (mayR_iff.1 hb).2
/-- Of three ways one. -/
theorem row_ways {a b : List Vl} (ha : mayR a = true) (hb : mayR b = true) : rlt a b ∨ a = b ∨ rlt b a := by
  have h0 := row_eq ha hb
  have hs := cmpT_swap a b
  rcases cmpT_range a b with e | e | e
  · left; exact ⟨⟨ha, hb⟩, by omega⟩
  · right; left; exact h0.1 e
  · right; right; exact ⟨⟨hb, ha⟩, by omega⟩
theorem mayR_len {r : List Vl} (h : mayR r = true) : r.length ≤ 8 := (mayR_iff.1 h).1
theorem cmpR_of {a b : List Vl} (ha : mayR a = true) (hb : mayR b = true) : cmpR a b = cmpT a b := by unfold cmpR; rw [ha, hb]; rfl
/-- A row's jumps, as they stand. -/
def jmps (l : List Ed) (r : List Vl) : List Jp := (l.filter fun e => decide (e.1 = r)).map Prod.snd
theorem jmps_cons (e : Ed) (l : List Ed) (r : List Vl) : jmps (e :: l) r = if e.1 = r then e.2 :: jmps l r else jmps l r := by
  unfold jmps
  by_cases h : e.1 = r
  · rw [if_pos h, List.filter_cons_of_pos (by simpa using h)]; rfl
  · rw [if_neg h, List.filter_cons_of_neg (by simpa using h)]
theorem jmps_append (l m : List Ed) (r : List Vl) : jmps (l ++ m) r = jmps l r ++ jmps m r := by simp [jmps]
theorem jmps_mem {l : List Ed} {r : List Vl} {j : Jp} : j ∈ jmps l r ↔ (r, j) ∈ l := by
  unfold jmps
  rw [List.mem_map]
  constructor
  · rintro ⟨⟨q, k⟩, h, rfl⟩
    rw [List.mem_filter, decide_eq_true_iff] at h
    obtain ⟨h1, rfl⟩ := h
    exact h1
  · intro h
    exact ⟨(r, j), by rw [List.mem_filter]; exact ⟨h, by simp⟩, rfl⟩
/-- Runs of one row. -/
def grp : List Ed → List Gp
  | [] => []
  | e :: r => match grp r with
    | [] => [(e.1, [e.2])]
    | (q, f) :: t => if q = e.1 then (q, e.2 :: f) :: t else (e.1, [e.2]) :: (q, f) :: t
theorem grp_head : ∀ (e : Ed) (r : List Ed), ∃ f t, grp (e :: r) = (e.1, f) :: t
  | e, [] => ⟨_, _, rfl⟩
  | e, d :: r => by
    obtain ⟨f, t, h⟩ := grp_head d r
    rw [grp, h]
    by_cases h1 : d.1 = e.1
    · simp only [if_pos h1]; exact ⟨_, _, by rw [h1]⟩
    · simp only [if_neg h1]; exact ⟨_, _, rfl⟩
/-- A run, and what is behind it. -/
theorem grp_run (r : List Vl) : ∀ (a : List Ed) (b : List Ed), a ≠ [] → (∀ e ∈ a, e.1 = r) → (∀ e, b.head? = some e → e.1 ≠ r) → grp (a ++ b) = (r, a.map Prod.snd) :: grp b
  | [], _, h, _, _ => absurd rfl h
  | [e], b, _, ha, hb => by
    have he := ha e (by simp)
    cases b with
    | nil => rw [List.append_nil]; simp [grp, he]
    | cons d b =>
      obtain ⟨f, t, h⟩ := grp_head d b
      have hd := hb d rfl
      show grp (e :: d :: b) = _
      rw [grp, h]
      simp only [he]
      rw [if_neg hd]
      rfl
  | e :: d :: a, b, _, ha, hb => by
    have he := ha e (by simp)
    have ih := grp_run r (d :: a) b (by simp) (fun x hx => ha x (by simp [hx])) hb
    show grp (e :: ((d :: a) ++ b)) = _
    rw [grp, ih]
    simp only [he, if_true, List.map_cons]
/-- The rows of edges do not fall. -/
def Rise (l : List Ed) : Prop := (∀ e ∈ l, mayR e.1 = true) ∧ l.Pairwise fun a b => cmpT a.1 b.1 ≤ 0
theorem Rise.tail {e : Ed} {l : List Ed} (h : Rise (e :: l)) : Rise l := ⟨fun x hx => h.1 x (by simp [hx]), (List.pairwise_cons.1 h.2).2⟩
theorem grp_rows : ∀ {l : List Ed}, Rise l → ((grp l).map Prod.fst).Pairwise rlt ∧ (∀ r, r ∈ (grp l).map Prod.fst ↔ ∃ e ∈ l, e.1 = r) ∧ (∀ g ∈ grp l, g.2 = jmps l g.1 ∧ g.2 ≠ [])
  | [], _ => ⟨by simp [grp], by simp [grp], by simp [grp]⟩
  | e :: l, h => by
    obtain ⟨i1, i2, i3⟩ := grp_rows h.tail
    have he := h.1 e (by simp)
    have hp := (List.pairwise_cons.1 h.2).1
    cases l with
    | nil =>
      refine ⟨by simp [grp], by simp [grp, eq_comm], ?_⟩
      intro g hg
      obtain rfl : g = (e.1, [e.2]) := by simpa [grp] using hg
      simp [jmps]
    | cons d l =>
      obtain ⟨f, t, hg⟩ := grp_head d l
      rw [hg] at i1 i2 i3
      have hd := h.1 d (by simp)
      have hle := hp d (by simp)
      rw [grp, hg]
      by_cases h1 : d.1 = e.1
      · simp only [if_pos h1]
        refine ⟨by simpa using i1, fun r => ?_, fun g hgm => ?_⟩
        · have := i2 r
          simp only [List.map_cons, List.mem_cons] at this ⊢
          rw [this]
          constructor
          · rintro ⟨x, hx, rfl⟩; exact ⟨x, .inr hx, rfl⟩
          · rintro ⟨x, rfl | hx, rfl⟩
            · exact ⟨d, .inl rfl, h1⟩
            · exact ⟨x, hx, rfl⟩
        · rcases List.mem_cons.1 hgm with rfl | hgm
          · have := (i3 (d.1, f) (by simp)).1
            simp only at this ⊢
            rw [jmps_cons, if_pos h1.symm, this]
            exact ⟨rfl, by simp⟩
          · have hne : e.1 ≠ g.1 := by
              rw [← h1]
              have := (List.pairwise_cons.1 i1).1 g.1 (List.mem_map.2 ⟨g, hgm, rfl⟩)
              exact rlt_ne this
            rw [jmps_cons, if_neg hne]
            exact i3 g (by simp [hgm])
      · simp only [if_neg h1]
        have hlt : rlt e.1 d.1 := by
          rcases row_ways he hd with h2 | h2 | h2
          · exact h2
          · exact absurd h2.symm h1
          · have := h2.2; have := cmpT_swap e.1 d.1; omega
        have hal : ∀ g ∈ (d.1, f) :: t, rlt e.1 g.1 := by
          intro g hgm
          rcases List.mem_cons.1 hgm with rfl | hgm
          · exact hlt
          · exact rlt_trans hlt ((List.pairwise_cons.1 i1).1 g.1 (List.mem_map.2 ⟨g, hgm, rfl⟩))
        refine ⟨?_, fun r => ?_, fun g hgm => ?_⟩
        · rw [List.map_cons, List.pairwise_cons]
          refine ⟨fun r hr => ?_, i1⟩
          obtain ⟨g, hgm, rfl⟩ := List.mem_map.1 hr
          exact hal g hgm
        · have := i2 r
          rw [List.map_cons, List.mem_cons, this]
          constructor
          · rintro (rfl | ⟨x, hx, rfl⟩)
            · exact ⟨e, by simp, rfl⟩
            · exact ⟨x, List.mem_cons_of_mem _ hx, rfl⟩
          · rintro ⟨x, hx, rfl⟩
            rcases List.mem_cons.1 hx with rfl | hx
            · exact .inl rfl
            · exact .inr ⟨x, hx, rfl⟩
        · rcases List.mem_cons.1 hgm with rfl | hgm
          · refine ⟨?_, by simp⟩
            simp only
            rw [jmps_cons, if_pos rfl]
            have : jmps (d :: l) e.1 = [] := by
              apply List.eq_nil_iff_forall_not_mem.2
              intro j hj
              have := (i2 e.1).2 ⟨_, jmps_mem.1 hj, rfl⟩
              obtain ⟨g, hgm, hge⟩ := List.mem_map.1 this
              exact rlt_ne (hal g hgm) hge.symm
            rw [this]
          · have := hal g hgm
            rw [jmps_cons, if_neg (rlt_ne this)]
            exact i3 g hgm
/-- A row put into rows that rise. -/
def hasR (rows : List (List Vl)) (r : List Vl) : Bool := rows.any fun x => decide (x = r)
theorem hasR_iff {rows : List (List Vl)} {r : List Vl} : hasR rows r = true ↔ r ∈ rows := by
  unfold hasR
  rw [List.any_eq_true]
  exact ⟨fun ⟨x, hx, e⟩ => by rw [decide_eq_true_iff] at e; subst e; exact hx, fun h => ⟨r, h, by simp⟩⟩
def insR (rows : List (List Vl)) (r : List Vl) : List (List Vl) := if hasR rows r then rows else rows.filter (fun x => decide (cmpT x r < 0)) ++ r :: rows.filter (fun x => decide (0 < cmpT x r))
def rowsL (l : List Ed) : List (List Vl) := l.foldl (fun rows e => insR rows e.1) []
theorem insR_mem {rows : List (List Vl)} {r x : List Vl} (hv : ∀ y ∈ rows, mayR y = true) (hr : mayR r = true) : x ∈ insR rows r ↔ x = r ∨ x ∈ rows := by
  unfold insR
  split
  · rename_i h
    rw [hasR_iff] at h
    constructor
    · exact .inr
    · rintro (rfl | h')
      · exact h
      · exact h'
  · rename_i h
    rw [hasR_iff] at h
    rw [List.mem_append, List.mem_cons, List.mem_filter, List.mem_filter, decide_eq_true_iff, decide_eq_true_iff]
    constructor
    · rintro (⟨h1, _⟩ | rfl | ⟨h1, _⟩)
      · exact .inr h1
      · exact .inl rfl
      · exact .inr h1
    · rintro (rfl | h1)
      · exact .inr (.inl rfl)
      · rcases row_ways (hv x h1) hr with h2 | rfl | h2
        · exact .inl ⟨h1, h2.2⟩
        · exact absurd h1 h
        · refine .inr (.inr ⟨h1, ?_⟩)
          have := h2.2; have := cmpT_swap x r; omega
theorem insR_asc {rows : List (List Vl)} {r : List Vl} (hv : ∀ y ∈ rows, mayR y = true) (hr : mayR r = true) (h : rows.Pairwise rlt) : (insR rows r).Pairwise rlt := by
  unfold insR
  split
  · exact h
  · rw [List.pairwise_append]
    refine ⟨h.sublist List.filter_sublist, ?_, ?_⟩
    · rw [List.pairwise_cons]
      refine ⟨fun x hx => ?_, h.sublist List.filter_sublist⟩
      rw [List.mem_filter, decide_eq_true_iff] at hx
      exact ⟨⟨hr, hv x hx.1⟩, by have := cmpT_swap x r; omega⟩
    · intro x hx y hy
      rw [List.mem_filter, decide_eq_true_iff] at hx
      have hxr : rlt x r := ⟨⟨hv x hx.1, hr⟩, hx.2⟩
      rcases List.mem_cons.1 hy with rfl | hy
      · exact hxr
      · rw [List.mem_filter, decide_eq_true_iff] at hy
        exact rlt_trans hxr ⟨⟨hr, hv y hy.1⟩, by have := cmpT_swap y r; omega⟩
theorem rowsL_ok {l : List Ed} (h : ∀ e ∈ l, mayR e.1 = true) : (rowsL l).Pairwise rlt ∧ (∀ r, r ∈ rowsL l ↔ ∃ e ∈ l, e.1 = r) := by
  have key : ∀ (m : List Ed) (rows : List (List Vl)), (∀ e ∈ m, mayR e.1 = true) → (∀ y ∈ rows, mayR y = true) → rows.Pairwise rlt →
      (m.foldl (fun rows e => insR rows e.1) rows).Pairwise rlt ∧ ∀ r, r ∈ m.foldl (fun rows e => insR rows e.1) rows ↔ r ∈ rows ∨ ∃ e ∈ m, e.1 = r := by
    intro m
    induction m with
    | nil => intro rows _ _ h; exact ⟨h, by simp⟩
    | cons e m ih =>
      intro rows hm hv ha
      have he := hm e (by simp)
      have hv' : ∀ y ∈ insR rows e.1, mayR y = true := fun y hy => by
        rcases (insR_mem hv he).1 hy with rfl | hy
        · exact he
        · exact hv y hy
      obtain ⟨i1, i2⟩ := ih (insR rows e.1) (fun x hx => hm x (by simp [hx])) hv' (insR_asc hv he ha)
      refine ⟨i1, fun r => ?_⟩
      rw [List.foldl_cons, i2 r, insR_mem hv he]
      constructor
      · rintro ((rfl | h1) | ⟨x, hx, rfl⟩)
        · exact .inr ⟨e, by simp, rfl⟩
        · exact .inl h1
        · exact .inr ⟨x, by simp [hx], rfl⟩
      · rintro (h1 | ⟨x, hx, rfl⟩)
        · exact .inl (.inr h1)
        · rcases List.mem_cons.1 hx with rfl | hx
          · exact .inl (.inl rfl)
          · exact .inr ⟨x, hx, rfl⟩
  have := key l [] h (by simp) List.Pairwise.nil
  exact ⟨this.1, fun r => by have := this.2 r; simpa [rowsL] using this⟩
/-- Each row with its jumps. -/
def byRows (l : List Ed) : List Gp := (rowsL l).map fun r => (r, jmps l r)
theorem grp_eq {l : List Ed} (h : Rise l) : grp l = byRows l := by
  obtain ⟨h1, h2, h3⟩ := grp_rows h
  obtain ⟨k1, k2⟩ := rowsL_ok h.1
  have e : (grp l).map Prod.fst = rowsL l := asc_unique rlt_irr rlt_asym _ _ h1 k1 fun r => by rw [h2, k2]
  unfold byRows
  rw [← e, List.map_map]
  have key : ∀ (G : List Gp), (∀ g ∈ G, g.2 = jmps l g.1) → G = G.map ((fun r => (r, jmps l r)) ∘ Prod.fst) := by
    intro G
    induction G with
    | nil => intro _; rfl
    | cons g G ih =>
      intro hG
      rw [List.map_cons, ← ih fun x hx => hG x (by simp [hx])]
      congr 1
      exact Prod.ext rfl (hG g (by simp))
  exact key _ fun g hg => (h3 g hg).1
/-- What is made of each row's jumps: the first thing that is wrong; the edges. -/
def evE (op : List Jp → Int × List Jp) : List Gp → Int
  | [] => 0
  | g :: t => if (op g.2).1 = 0 then evE op t else (op g.2).1
def evL (op : List Jp → Int × List Jp) (G : List Gp) : List Ed := G.flatMap fun g => (op g.2).2.map fun j => (g.1, j)
def eachE (op : List Jp → Int × List Jp) (G : List Gp) : Int := if evE op G = 0 then (if 4096 < (evL op G).length then 7 else 0) else evE op G
def eachR (op : List Jp → Int × List Jp) (G : List Gp) : List Ed := if eachE op G = 0 then evL op G else []
theorem evL_snoc (op : List Jp → Int × List Jp) (G : List Gp) (g : Gp) : evL op (G ++ [g]) = evL op G ++ (op g.2).2.map fun j => (g.1, j) := by simp [evL]
def nmOp (f : List Jp) : Int × List Jp := (nmE f, nmR f)
/-- Edges put together: what is wrong, and the edges. -/
def badE (e : Ed) : Bool := !mayR e.1 || tooJ e.2
def neE (l : List Ed) : Int := if l.any badE then 2 else if l.any (fun e => nowJ e.2) then 13 else eachE nmOp (byRows l)
def neR (l : List Ed) : List Ed := if neE l = 0 then eachR nmOp (byRows l) else []
/-- In form. -/
def riseB (l : List Ed) : Bool := decide (l.Pairwise fun a b => cmpT a.1 b.1 ≤ 0)
def mayE (l : List Ed) : Bool := decide (l.length ≤ 4096) && (l.all (fun e => mayR e.1) && (riseB l && (grp l).all fun g => mayJ g.2))
theorem mayE_iff {l : List Ed} : mayE l = true ↔ l.length ≤ 4096 ∧ Rise l ∧ ∀ g ∈ grp l, mayJ g.2 = true := by
  unfold mayE riseB Rise
  rw [Bool.and_eq_true, Bool.and_eq_true, Bool.and_eq_true, decide_eq_true_iff, decide_eq_true_iff, List.all_eq_true, List.all_eq_true]
  exact ⟨fun ⟨a, b, c, d⟩ => ⟨a, ⟨b, c⟩, d⟩, fun ⟨a, ⟨b, c⟩, d⟩ => ⟨a, b, c, d⟩⟩
theorem mayE_rise {l : List Ed} (h : mayE l = true) : Rise l := (mayE_iff.1 h).2.1
/-- A table. -/
def tabE (l : List Ed) : Bool := mayE l && (grp l).all fun g => decide (0 ≤ leV g.2)
end Go.Proofs.YtljkneajdndgjabGreat
