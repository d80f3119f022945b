/-
  A helper of ours: no claim of its own. Layer 28 (hop): what must be whatever is asked.
-/
import Derived.Test.YtljkneajdndgjaaGreatHopX
import Derived.Test.YtljkneajdndgjaaGreatHopL
import Derived.Test.YtljkneajdndgjaaGreatSnaM
import Derived.Test.YtljkneajdndgjaaGreatRx
import Derived.Test.YtljkneajdndgjaaGreatHopE
import Derived.Test.YtljkneajdndgjaaGreatSnaF
import Derived.Test.YtljkneajdndgjaaGreatEdgRo
set_option linter.unusedVariables false
set_option linter.unusedSimpArgs false
namespace Go.Proofs.YtljkneajdndgjaaGreat
open Go.RowKit
theorem mayJ_jmps {l : List Ed} (hm : mayE l = true) (r : List Vl) : mayJ (jmps l r) = true := by
  by_cases h : jmps l r = []
  · rw [h]; rfl
  · have h1 := (mem_rows (mayE_rise hm).1 r).2 h
    refine (mayE_iff.1 hm).2.2 (r, jmps l r) ?_
    rw [grp_eq (mayE_rise hm)]
    exact List.mem_map.2 ⟨r, h1, rfl⟩
theorem hrows_rows {s hp f R t : Int} {l : List Ed} (hm : mayE l = true) : hrows s hp f R (grp l) t = ((rowsL l).filter fun r => decide (t ∈ ofL s hp R (jmps l r) f)).map fun r => (r, copN (jmps l r) t (hend s t)) := by
  unfold hrows
  rw [grp_eq (mayE_rise hm)]
  unfold byRows
  rw [List.filter_map, List.map_map]
  rfl
theorem ofL_row {s hp f R t : Int} {l : List Ed} (hm : mayE l = true) {r : List Vl} (h : t ∈ ofL s hp R (jmps l r) f) : r ∈ rowsL l := by
  rw [mem_rows (mayE_rise hm).1]
  intro e
  rw [e] at h
  simp [ofL, ofSt] at h
section
variable {s hp f R T : Int} {l m : List Ed}
end
end Go.Proofs.YtljkneajdndgjaaGreat
set_option linter.unusedVariables false
set_option linter.unusedSimpArgs false
namespace Go.Proofs.YtljkneajdndgjaaGreat
open Go.RowKit
theorem tab_iff {l : List Ed} (hm : mayE l = true) : tabE l = true ↔ ∀ r, 0 ≤ leV (jmps l r) := by
  unfold tabE
  rw [hm, Bool.true_and, List.all_eq_true]
  rw [grp_eq (mayE_rise hm)]
  constructor
  · intro h r
    by_cases hr : r ∈ rowsL l
    · have := h (r, jmps l r) (List.mem_map.2 ⟨r, hr, rfl⟩)
      simpa using this
    · rw [mem_rows (mayE_rise hm).1, Classical.not_not] at hr
      rw [hr]
      decide
  · intro h g hg
    obtain ⟨r, -, rfl⟩ := List.mem_map.1 hg
    simpa using h r
section
variable {s hp R T : Int} {l m : List Ed}
end
end Go.Proofs.YtljkneajdndgjaaGreat
set_option linter.unusedVariables false
set_option linter.unusedSimpArgs false
namespace Go.Proofs.YtljkneajdndgjaaGreat
open Go.RowKit
/-- How many lifetimes share a tick with a window. -/
def belN (S : List Sp) (a b : Int) : Int := ((S.filter fun s => decide (s.1 < b) && decide (a < s.2)).length : Nat)
def inN (l : List Int) (a b : Int) : Int := ((l.filter fun x => decide (a < x) && decide (x < b)).length : Nat)
theorem belN_cons (s : Sp) (S : List Sp) (a b : Int) : belN (s :: S) a b = (if s.1 < b ∧ a < s.2 then 1 else 0) + belN S a b := by
  unfold belN
  rw [List.filter_cons]
  by_cases h1 : s.1 < b <;> by_cases h2 : a < s.2 <;> simp [h1, h2]
  omega
theorem belN_next {S : List Sp} {k : Nat} {s : Sp} (h : S[k]? = some s) (a b : Int) : belN (S.take (k + 1)) a b = belN (S.take k) a b + (if s.1 < b ∧ a < s.2 then 1 else 0) := by
  unfold belN
  rw [List.take_add_one, h, Option.toList_some, List.filter_append, List.length_append]
  by_cases h1 : s.1 < b <;> by_cases h2 : a < s.2 <;> simp [h1, h2]
theorem belN_le (S : List Sp) (a b : Int) : 0 ≤ belN S a b ∧ belN S a b ≤ S.length := by
  unfold belN
  have := List.length_filter_le (fun s : Sp => decide (s.1 < b) && decide (a < s.2)) S
  omega
theorem belN_pos (S : List Sp) (a b : Int) : 0 < belN S a b ↔ ∃ s ∈ S, s.1 < b ∧ a < s.2 := by
  unfold belN
  constructor
  · intro h
    obtain ⟨s, hs⟩ := List.exists_mem_of_length_pos (show 0 < (S.filter fun s => decide (s.1 < b) && decide (a < s.2)).length by omega)
    obtain ⟨h1, h2⟩ := List.mem_filter.1 hs
    simp at h2
    exact ⟨s, h1, h2⟩
  · rintro ⟨s, h1, h2⟩
    have : s ∈ S.filter fun s => decide (s.1 < b) && decide (a < s.2) := List.mem_filter.2 ⟨h1, by simpa using h2⟩
    have := List.length_pos_of_mem this
    omega
theorem inN_append (l m : List Int) (a b : Int) : inN (l ++ m) a b = inN l a b + inN m a b := by
  unfold inN
  rw [List.filter_append, List.length_append]
  push_cast
  rfl
theorem inN_rep (n : Nat) (x a b : Int) : inN (List.replicate n x) a b = if a < x ∧ x < b then (n : Int) else 0 := by
  unfold inN
  rw [List.filter_replicate]
  by_cases h1 : a < x <;> by_cases h2 : x < b <;> simp [h1, h2]
theorem inN_beg (a b : Int) : ∀ J : List Jp, inN (begL J) a b = cpS J a b
  | [] => rfl
  | j :: J => by
    have e1 : begL (j :: J) = List.replicate j.2.toNat j.1 ++ begL J := rfl
    have e2 : cpS (j :: J) a b = (if a < j.1 ∧ j.1 < b then max j.2 0 else 0) + cpS J a b := by
      unfold cpS
      rw [List.filter_cons]
      by_cases h1 : a < j.1 <;> by_cases h2 : j.1 < b <;> simp [h1, h2]
    rw [e1, inN_append, inN_rep, e2, inN_beg a b J]
    congr 1
    split
    · omega
    · rfl
theorem belN_eq {a b : Int} (hab : a < b) : ∀ S : List Sp, (∀ s ∈ S, s.1 < s.2) → belN S a b = jv (spj S) a + inN (S.map Prod.fst) a b
  | [], _ => rfl
  | s :: S, h => by
    have h1 := h s (by simp)
    have e : inN ((s :: S).map Prod.fst) a b = (if a < s.1 ∧ s.1 < b then 1 else 0) + inN (S.map Prod.fst) a b := by
      rw [List.map_cons, show s.1 :: S.map Prod.fst = List.replicate 1 s.1 ++ S.map Prod.fst from rfl, inN_append, inN_rep]
      rfl
    rw [belN_cons, belN_eq hab S (fun x hx => h x (by simp [hx])), spj_cons, jv, jv, e]
    simp only
    by_cases c1 : s.1 ≤ a <;> by_cases c2 : s.2 ≤ a <;> by_cases c3 : s.1 < b
    all_goals
      first | rw [if_pos c1] | rw [if_neg c1]
      first | rw [if_pos c2] | rw [if_neg c2]
      split <;> split <;> omega
/-- How many lifetimes are there at a tick. -/
theorem spj_num {u : Int} : ∀ S : List Sp, (∀ s ∈ S, s.1 < s.2) → (jv (spj S) u ≠ 0 ↔ ∃ s ∈ S, s.1 ≤ u ∧ u < s.2) := by
  have key : ∀ S : List Sp, (∀ s ∈ S, s.1 < s.2) → jv (spj S) u = belN S u (u + 1) := fun S h => by
    rw [belN_eq (by omega) S h]
    have : inN (S.map Prod.fst) u (u + 1) = 0 := by
      unfold inN
      rw [List.filter_eq_nil_iff.2 (fun x _ => by simp; omega)]
      rfl
    omega
  intro S h
  rw [key S h]
  have h1 := belN_pos S u (u + 1)
  have h2 := (belN_le S u (u + 1)).1
  constructor
  · intro k
    obtain ⟨s, hs, a, b⟩ := h1.1 (by omega)
    exact ⟨s, hs, by omega, b⟩
  · rintro ⟨s, hs, a, b⟩
    have := h1.2 ⟨s, hs, by omega, b⟩
    omega
section
variable {J : List Jp}
theorem life_rng (hm : mayJ J = true) (h0 : 0 ≤ leV J) : ∀ s ∈ lifeL J, -1 ≤ s.1 ∧ s.1 < s.2 ∧ s.2 ≤ 1125899906842624 := (life_ok hm h0).rng
theorem belN_life (hm : mayJ J = true) (h0 : 0 ≤ leV J) {a b : Int} (hab : a < b) (ha : a < 1125899906842624) : belN (lifeL J) a b = copN J a b := by
  rw [belN_eq hab _ (fun s hs => (life_rng hm h0 s hs).2.1), life_jv (end_le hm h0) ha]
  have e : (lifeL J).map Prod.fst = begL J := spL_fst _ _
  rw [e, inN_beg]
  unfold copN
  rw [atV_of hm]
theorem life_hit (hm : mayJ J = true) (h0 : 0 ≤ leV J) {u : Int} (hu : u < 1125899906842624) : jv J u ≠ 0 ↔ ∃ s ∈ lifeL J, s.1 ≤ u ∧ u < s.2 := by
  rw [← life_jv (end_le hm h0) hu]
  exact spj_num _ fun s hs => (life_rng hm h0 s hs).2.1
theorem hend_up {s x : Int} (hs : 1 ≤ s) (hx : x < 1125899906842624) : x < hend s x ∧ hend s x ≤ x + s ∧ hend s x ≤ 1125899906842624 := by
  unfold hend
  split <;> omega
theorem hit_bel (hm : mayJ J = true) (h0 : 0 ≤ leV J) {s x : Int} (hs : 1 ≤ s) (hx : x < 1125899906842624) : (∃ u, x ≤ u ∧ u < x + s ∧ u < 1125899906842624 ∧ jv J u ≠ 0) ↔ 0 < belN (lifeL J) x (hend s x) := by
  rw [belN_pos]
  constructor
  · rintro ⟨u, h1, h2, h3, h4⟩
    obtain ⟨p, hp, a, b⟩ := (life_hit hm h0 h3).1 h4
    refine ⟨p, hp, ?_, by omega⟩
    unfold hend
    split <;> omega
  · rintro ⟨p, hp, a, b⟩
    obtain ⟨r1, r2, r3⟩ := life_rng hm h0 p hp
    obtain ⟨e1, e2, e3⟩ := hend_up hs hx
    refine ⟨max x p.1, by omega, by omega, by omega, ?_⟩
    exact (life_hit hm h0 (by omega)).2 ⟨p, hp, by omega, by omega⟩
theorem hW_mem {s hp lo hi f r t : Int} (hh : 1 ≤ hp) (hr : r ≤ 1125899906842624) : t ∈ hW s hp lo hi f r ↔ Mul hp t ∧ f ≤ t ∧ lo < t + s ∧ t < r ∧ t < hi := by
  unfold hW hA
  rw [hbeg_mem hh (hZ_le hr)]
  unfold hZ
  constructor
  · rintro ⟨h1, h2, h3⟩
    refine ⟨h1, ?_⟩
    split at h2 <;> split at h3 <;> omega
  · rintro ⟨h1, h2, h3, h4, h5⟩
    refine ⟨h1, ?_, ?_⟩
    · split <;> omega
    · split <;> omega
theorem ofL_life (hm : mayJ J = true) (h0 : 0 ≤ leV J) {s hp r f t : Int} (hs : 1 ≤ s) (hh : 1 ≤ hp) (hr : r ≤ 1125899906842624) : t ∈ ofL s hp r J f ↔ ∃ p ∈ lifeL J, t ∈ hW s hp p.1 p.2 f r := by
  rw [ofL_val hs hh hr hm]
  constructor
  · rintro ⟨a, b, c, u, h1, h2, h3, h4⟩
    obtain ⟨p, hp, q1, q2⟩ := (life_hit hm h0 h3).1 h4
    exact ⟨p, hp, (hW_mem hh hr).2 ⟨a, b, by omega, c, by omega⟩⟩
  · rintro ⟨p, hp, h⟩
    obtain ⟨a, b, c, d, e⟩ := (hW_mem hh hr).1 h
    obtain ⟨r1, r2, r3⟩ := life_rng hm h0 p hp
    exact ⟨a, b, d, max t p.1, by omega, by omega, by omega, (life_hit hm h0 (by omega)).2 ⟨p, hp, by omega, by omega⟩⟩
end
/-- Windows, row by row and lifetime by lifetime. -/
def winS (s h f r : Int) (S : List Sp) : List Int := S.flatMap fun p => hW s h p.1 p.2 f r
def winR (l : List Ed) (s h f r : Int) (R : List (List Vl)) : List Int := R.flatMap fun q => winS s h f r (lifeL (jmps l q))
theorem winS_next {S : List Sp} {k : Nat} {p : Sp} (e : S[k]? = some p) (s h f r : Int) : winS s h f r (S.take (k + 1)) = winS s h f r (S.take k) ++ hW s h p.1 p.2 f r := by
  unfold winS
  rw [List.take_add_one, e, Option.toList_some, List.flatMap_append]
  simp
theorem winR_next {R : List (List Vl)} {k : Nat} {q : List Vl} (e : R[k]? = some q) (l : List Ed) (s h f r : Int) : winR l s h f r (R.take (k + 1)) = winR l s h f r (R.take k) ++ winS s h f r (lifeL (jmps l q)) := by
  unfold winR
  rw [List.take_add_one, e, Option.toList_some, List.flatMap_append]
  simp
section
variable {l : List Ed} {s hp f r : Int}
theorem row_fine (hm : mayE l = true) (ht : tabE l = true) (q : List Vl) : mayJ (jmps l q) = true ∧ 0 ≤ leV (jmps l q) := ⟨mayJ_jmps hm q, (tab_iff hm).1 ht q⟩
theorem winR_mem (hm : mayE l = true) (ht : tabE l = true) (hs : 1 ≤ s) (hh : 1 ≤ hp) (hr : r ≤ 1125899906842624) (x : Int) : x ∈ hkeys s hp f r (grp l) ↔ ∃ q, ∃ p ∈ lifeL (jmps l q), x ∈ hW s hp p.1 p.2 f r := by
  rw [hkeys_mem, grp_eq (mayE_rise hm)]
  constructor
  · rintro ⟨g, hg, hx⟩
    obtain ⟨q, -, rfl⟩ := List.mem_map.1 hg
    obtain ⟨a, b⟩ := row_fine hm ht q
    exact ⟨q, (ofL_life a b hs hh hr).1 hx⟩
  · rintro ⟨q, hx⟩
    obtain ⟨a, b⟩ := row_fine hm ht q
    have hx2 := (ofL_life a b hs hh hr).2 hx
    exact ⟨(q, jmps l q), List.mem_map.2 ⟨q, ofL_row hm hx2, rfl⟩, hx2⟩
theorem winR_all (hm : mayE l = true) (ht : tabE l = true) (hs : 1 ≤ s) (hh : 1 ≤ hp) (hr : r ≤ 1125899906842624) : insAll (winR l s hp f r (rowsL l)) = hkeys s hp f r (grp l) := by
  refine asc_unique (R := (· < · : Int → Int → Prop)) (fun a h => by omega) (fun a b h1 h2 => by omega) _ _ (insAll_asc _) (hkeys_asc _ _ _ _ _) fun x => ?_
  rw [insAll_mem, winR_mem hm ht hs hh hr]
  unfold winR winS
  constructor
  · intro h
    obtain ⟨q, -, h⟩ := List.mem_flatMap.1 h
    obtain ⟨p, hp, h⟩ := List.mem_flatMap.1 h
    exact ⟨q, p, hp, h⟩
  · rintro ⟨q, p, hp, h⟩
    refine List.mem_flatMap.2 ⟨q, ?_, List.mem_flatMap.2 ⟨p, hp, h⟩⟩
    rw [mem_rows (mayE_rise hm).1]
    intro e
    rw [e] at hp
    simp [lifeL, begL, spL] at hp
theorem keys_len {A : List Int} {K : List Int} (hK : K.Pairwise (· < ·)) (h : ∀ x ∈ A, x ∈ K) : (insAll A).length ≤ K.length :=
  nodup_len _ _ (asc_nodup (insAll_asc A)) fun x hx => h x ((insAll_mem A x).1 hx)
/-- The rows of a window, as the document tells them. -/
theorem hrows_doc (hm : mayE l = true) (ht : tabE l = true) (hs : 1 ≤ s) (hh : 1 ≤ hp) (hr : r ≤ 1125899906842624) {x : Int} (hx : x ∈ hkeys s hp f r (grp l)) : hrows s hp f r (grp l) x = ((rowsL l).filter fun q => decide (0 < belN (lifeL (jmps l q)) x (hend s x))).map fun q => (q, belN (lifeL (jmps l q)) x (hend s x)) := by
  obtain ⟨g, hg, hx1⟩ := hkeys_mem.1 hx
  obtain ⟨a, b, c, -⟩ := (ofL_val hs hh hr ((mayE_iff.1 hm).2.2 g hg)).1 hx1
  have hF : x < 1125899906842624 := by omega
  rw [hrows_rows hm]
  have e : ∀ q, decide (x ∈ ofL s hp r (jmps l q) f) = decide (0 < belN (lifeL (jmps l q)) x (hend s x)) := fun q => by
    obtain ⟨q1, q2⟩ := row_fine hm ht q
    refine decide_eq_decide.2 ?_
    rw [ofL_val hs hh hr q1, ← hit_bel q1 q2 hs hF]
    exact ⟨fun h => h.2.2.2, fun h => ⟨a, b, c, h⟩⟩
  rw [List.filter_congr fun q _ => e q]
  refine List.map_congr_left fun q _ => ?_
  obtain ⟨q1, q2⟩ := row_fine hm ht q
  rw [belN_life q1 q2 (hend_up hs hF).1 hF]
theorem cntJ_few {J : List Jp} (h : ∀ j ∈ J, j.2 ≤ 10) : cntJ J ≤ 10 * J.length := by
  unfold cntJ begL
  induction J with
  | nil => simp
  | cons j J ih =>
    have h1 := ih (fun x hx => h x (by simp [hx]))
    have h2 := h j (by simp)
    rw [List.flatMap_cons, List.length_append, List.length_replicate, List.length_cons]
    push_cast
    omega
theorem spR_few (hm : mayE l = true) (ht : tabE l = true) (hl : l.length ≤ 60) (h10 : ∀ e ∈ l, e.2.2 ≤ 10) (q : List Vl) : spE (jmps l q) = 0 ∧ spR (jmps l q) = lifeL (jmps l q) ∧ (lifeL (jmps l q)).length ≤ 600 := by
  obtain ⟨q1, q2⟩ := row_fine hm ht q
  have hj : (jmps l q).length ≤ 60 := by
    unfold jmps
    rw [List.length_map]
    exact Nat.le_trans (List.length_filter_le _ _) hl
  have hc : cntJ (jmps l q) ≤ 600 := by
    have := cntJ_few (J := jmps l q) (fun j hj => by
      unfold jmps at hj
      obtain ⟨e, he, rfl⟩ := List.mem_map.1 hj
      exact h10 e (List.mem_filter.1 he).1)
    omega
  have e : spE (jmps l q) = 0 := by unfold spE; rw [if_pos q1, if_neg (by omega), if_neg (by omega)]
  refine ⟨e, by unfold spR; rw [if_pos e], ?_⟩
  unfold lifeL
  rw [spL_length]
  unfold cntJ at hc
  omega
end
end Go.Proofs.YtljkneajdndgjaaGreat
set_option linter.unusedVariables false
set_option linter.unusedSimpArgs false
namespace Go.Proofs.YtljkneajdndgjaaGreat
open Go.RowKit
attribute [local go_sem] GW.cell GW.frozen In.eq_true In.le_true In.ne In.ne' In.ne_add In.ne_add' In.lt_add Upto.le_true Upto.le_add Upto.lt_add
def rOne : List Vl := [(1, 1, ⟨#[]⟩)]
abbrev oOne : Obj := .cells #[.int .i64 1, .int .i64 1, .string ⟨#[]⟩] 64
theorem rwOne (w : World) : Rw (w.alloc oOne) [] (.slice (some ⟨w.heap.size, 0, none⟩) 1 1) rOne := Sl.own (World.ownsRow_lit (base := w.heap.size) (e := 64) (size := 3) w #[.int .i64 1, .int .i64 1, .string ⟨#[]⟩] 1 (Nat.le_refl _) (by decide) rfl) (by simp)
end Go.Proofs.YtljkneajdndgjaaGreat
set_option linter.unusedVariables false
set_option linter.unusedSimpArgs false
namespace Go.Proofs.YtljkneajdndgjaaGreat
open Go.RowKit
attribute [local go_sem] GW.cell GW.frozen In.eq_true In.le_true In.ne In.ne' In.ne_add In.ne_add' In.lt_add Upto.le_true Upto.le_add Upto.lt_add
def hpE0 : List Ed := [(rOne, (3, 1)), (rOne, (7, -1))]
theorem hp0_a : hopV 10 5 12 = 5 := by decide +kernel
theorem hp0_b : hopE 10 5 12 = 0 := by decide +kernel
theorem hp0_c : hsE 10 5 3 7 0 100 = 0 := by decide +kernel
theorem hp0_d : hsL 10 5 3 7 0 100 = [0, 5] := by decide +kernel
theorem hp0_e : hpE hpE0 10 5 0 100 = 0 := by decide +kernel
theorem hp0_f : hpL hpE0 10 5 0 100 = [((0, 10), [(rOne, 1)]), ((5, 15), [(rOne, 1)])] := by kernel_rfl
theorem pts2 {P : List Vp} {a b : Pt} (h : pts P = [a, b]) : ∃ x C, P[1]? = some (x, b.1, C) ∧ cps C = b.2 ∧ P.length = 2 := by
  match P, h with
  | [p, (x, s, C)], h =>
    simp only [pts, List.map_cons, List.map_nil, List.cons.injEq] at h
    obtain ⟨-, h2, -⟩ := h
    exact ⟨x, C, by rw [← h2]; rfl, by rw [← h2], rfl⟩
abbrev oEdges (W : World) : Obj := .cells #[.slice (some ⟨W.heap.size, 0, none⟩) 1 1, .int .i64 3, .int .i64 1, .slice (some ⟨W.heap.size + 1, 0, none⟩) 1 1, .int .i64 7, .int .i64 (-1)] 58
set_option maxHeartbeats 4000000 in
set_option maxRecDepth 100000 in
theorem hpLiveParts (W : World) : Calls Tryz.prog 25 #[.slice (some ⟨W.heap.size + 1 + 1, 0, none⟩) 2 2, .int .i64 10, .int .i64 5, .int .i64 0, .int .i64 100] (((W.alloc oOne).alloc oOne).alloc (oEdges W)) fun e w' => ∃ v' P, e = .returned (.tuple #[v', .int .i64 0]) ∧ pts P = [((0, 10), [(rOne, 1)]), ((5, 15), [(rOne, 1)])] ∧ OwnP w' W.heap.size v' P ∧ Ext W w' := by
  have h1 : Rw ((W.alloc oOne).alloc oOne) [] (.slice (some ⟨W.heap.size, 0, none⟩) 1 1) rOne := Sl.ext (rwOne W) ((Ext.refl _).alloc _)
  have h2 : Rw ((W.alloc oOne).alloc oOne) [] (.slice (some ⟨W.heap.size + 1, 0, none⟩) 1 1) rOne := by have := rwOne (W.alloc oOne); rwa [World.size_alloc] at this
  have hz2 : ((W.alloc oOne).alloc oOne).heap.size = W.heap.size + 1 + 1 := by simp
  obtain ⟨L, hL⟩ : ∃ L : List Ve, L = [(.slice (some ⟨W.heap.size, 0, none⟩) 1 1, rOne, (3, 1)), (.slice (some ⟨W.heap.size + 1, 0, none⟩) 1 1, rOne, (7, -1))] := ⟨_, rfl⟩
  have hE : eds L = hpE0 := by rw [hL]; rfl
  have hEw : Ew (((W.alloc oOne).alloc oOne).alloc (oEdges W)) [] (.slice (some ⟨W.heap.size + 1 + 1, 0, none⟩) 2 2) L := by
    refine ⟨?_, ?_⟩
    · have := Sl.own (S := []) (World.ownsRow_lit (base := ((W.alloc oOne).alloc oOne).heap.size) (e := 58) (size := 3) ((W.alloc oOne).alloc oOne) #[.slice (some ⟨W.heap.size, 0, none⟩) 1 1, .int .i64 3, .int .i64 1, .slice (some ⟨W.heap.size + 1, 0, none⟩) 1 1, .int .i64 7, .int .i64 (-1)] 2 (Nat.le_refl _) (by decide) rfl) (by simp)
      rw [hL]
      rw [hz2] at this
      exact this
    · intro p hp
      rw [hL] at hp
      simp only [List.mem_cons, List.not_mem_nil, or_false] at hp
      rcases hp with rfl | rfl
      · exact Sl.alloc h1 _
      · exact Sl.alloc h2 _
  have hX : Ext W (((W.alloc oOne).alloc oOne).alloc (oEdges W)) := (((Ext.refl W).alloc _).alloc _).alloc _
  have hp := hpParts_c L 10 5 0 100 _ _ hEw
  rw [hE, hp0_e, hp0_f] at hp
  exact hp.mono fun e w' ⟨v', P, h1, h2, h3, h4⟩ => ⟨v', P, h1, h2, h3.base hX.size, hX.trans h4⟩
set_option maxHeartbeats 8000000 in
set_option maxRecDepth 100000 in
theorem hopLive_c : HopLive := by
  intro w
  have ho := hide (fun w => hopen_c 10 5 12 w)
  have hst := hide (fun w => hstarts_c 10 5 3 7 0 100 (by unfold I64; omega) (by unfold I64; omega) w)
  have hpa := hide hpLiveParts
  rw [hp0_a, hp0_b] at ho
  rw [hp0_c, hp0_d] at hst
  go_enter Tryz.func24, Tryz.ntmps24
  go_wp2_with (first
    | (go_at_call 33; refine (ho.out _).mono ?_; rintro ee w3 ⟨rfl, hY⟩; have hx3 := hide hY; clear hY)
    | (go_at_call 52; refine (hst.out _).mono ?_; rintro ee w4 ⟨v4, rfl, ho4, hY⟩; have hx4 := hide (hx3.out.trans hY); have hz4 := hide ho4; obtain ⟨g4, c4, q4, -, l4⟩ := own_block2 ho4 (by decide); subst q4; clear ho4 hY)
    | (go_at_call 25; refine (hpa.out _).mono ?_; rintro ee w5 ⟨v5, P, rfl, hP, ho5, hx5⟩; obtain ⟨x, C, hP1, hC, hPl⟩ := pts2 hP; have ho51 := ho5.1; rw [hPl] at ho51; obtain ⟨g5, c5, q5, -, l5⟩ := own_block2 ho51 (by decide); have hoc := (ho5.2 _ (List.mem_of_getElem? hP1)); simp only at hoc; obtain ⟨XA, xc, rfl⟩ := hoc.form; have hCl := congrArg List.length hC; simp only [List.length_map, List.length_cons, List.length_nil] at hCl; rw [hCl] at hP1; have z4 := World.ownsRow.cellAt (own_ext hz4.out hx5) 1 (by decide); have i4 : In g4 w5 := ⟨Nat.lt_of_lt_of_le l4 hx5.size⟩; subst q5; have y0 := World.ownsRow.cellAt ho51 3 (by decide); have y1 := World.ownsRow.cellAt ho51 4 (by decide); have y2 := World.ownsRow.cellAt ho51 5 (by decide); (have t0 := pt_get P 1 _ hP1 0 _ rfl); (have t1 := pt_get P 1 _ hP1 1 _ rfl); (have t2 := pt_get P 1 _ hP1 2 _ rfl); rw [t0] at y0; rw [t1] at y1; rw [t2] at y2; have i5 : In g5 w5 := ⟨l5⟩; have hx6 := hide (hx4.out.trans hx5); (replace z4 : w5.cell? ⟨g4, 1, none⟩ = some (.int .i64 5) := z4); clear t0 t1 t2 hoc ho51 ho5 hP hP1 hC hPl hCl hx5))
  go_returns
  exact ⟨by first | rfl | simp, hx6.out⟩
end Go.Proofs.YtljkneajdndgjaaGreat
