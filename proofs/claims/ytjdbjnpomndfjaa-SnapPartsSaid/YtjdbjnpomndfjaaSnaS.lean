/-
  A helper of ours: no claim of its own. Layer 27 (snap): windows from each tick at which a table changes up to the next one, as lists. No program in it.
-/
import Derived.Test.YtjdbjnpomndfjaaEdgK
set_option linter.unusedVariables false
set_option linter.unusedSimpArgs false
namespace Go.Proofs.Ytjdbjnpomndfjaa
open Go.RowKit
/-- A copy: a row, how often. A part: from, to; its rows. -/
abbrev Cp := List Vl × Int
abbrev Pt := (Int × Int) × List Cp
/-- The rows of a table that are there at a tick. -/
def alG (G : List Gp) (t : Int) : List Cp := (G.filter fun g => decide (0 < atV g.2 t)).map fun g => (g.1, atV g.2 t)
theorem alG_snoc (G : List Gp) (g : Gp) (t : Int) : alG (G ++ [g]) t = alG G t ++ (if 0 < atV g.2 t then [(g.1, atV g.2 t)] else []) := by
  unfold alG
  rw [List.filter_append, List.map_append]
  congr 1
  by_cases h : 0 < atV g.2 t
  · rw [if_pos h, List.filter_cons_of_pos (by simpa using h)]; rfl
  · rw [if_neg h, List.filter_cons_of_neg (by simpa using h)]; rfl
theorem alG_next {G : List Gp} {k : Nat} {g : Gp} (h : G[k]? = some g) (t : Int) : alG (G.take (k + 1)) t = alG (G.take k) t ++ (if 0 < atV g.2 t then [(g.1, atV g.2 t)] else []) := by
  rw [List.take_add_one, h]; exact alG_snoc _ _ _
theorem alG_len (G : List Gp) (t : Int) : (alG G t).length ≤ G.length := by
  unfold alG
  rw [List.length_map]
  exact List.length_filter_le _ _
/-- Where something changes above a tick, and the tick. -/
def cutP (l : List Ed) (f : Int) : List Int := plc [f] ((l.map Prod.snd).filter fun j => decide (f < j.1))
theorem cutP_nil (f : Int) : cutP [] f = [f] := rfl
theorem cutP_snoc (l : List Ed) (e : Ed) (f : Int) : cutP (l ++ [e]) f = if f < e.2.1 then ins (cutP l f) e.2.1 else cutP l f := by
  unfold cutP
  rw [List.map_append, List.filter_append]
  by_cases h : f < e.2.1
  · rw [if_pos h, List.map_cons, List.filter_cons_of_pos (by simpa using h)]
    exact plc_snoc _ _ _
  · rw [if_neg h, List.map_cons, List.filter_cons_of_neg (by simpa using h)]
    simp
theorem cutP_next {l : List Ed} {k : Nat} {e : Ed} (h : l[k]? = some e) (f : Int) : cutP (l.take (k + 1)) f = if f < e.2.1 then ins (cutP (l.take k) f) e.2.1 else cutP (l.take k) f := by
  rw [List.take_add_one, h]; exact cutP_snoc _ _ _
theorem cutP_asc (l : List Ed) (f : Int) : (cutP l f).Pairwise (· < ·) := plc_asc _ _ (by simp)
theorem cutP_mem (l : List Ed) (f x : Int) : x ∈ cutP l f ↔ x = f ∨ (f < x ∧ ∃ e ∈ l, e.2.1 = x) := by
  unfold cutP
  rw [plc_mem, List.mem_singleton]
  constructor
  · rintro (rfl | ⟨j, hj, rfl⟩)
    · exact .inl rfl
    · rw [List.mem_filter, List.mem_map, decide_eq_true_iff] at hj
      obtain ⟨⟨e, he, rfl⟩, hf⟩ := hj
      exact .inr ⟨hf, e, he, rfl⟩
  · rintro (rfl | ⟨hf, e, he, rfl⟩)
    · exact .inl rfl
    · exact .inr ⟨e.2, by rw [List.mem_filter, List.mem_map, decide_eq_true_iff]; exact ⟨⟨e, he, rfl⟩, hf⟩, rfl⟩
theorem cutP_len (l : List Ed) (f : Int) : (cutP l f).length ≤ l.length + 1 := by
  unfold cutP
  have h1 := plc_length ((l.map Prod.snd).filter fun j => decide (f < j.1)) [f] (by simp)
  have h2 := List.length_filter_le (fun j : Jp => decide (f < j.1)) (l.map Prod.snd)
  rw [List.length_map] at h2
  simp only [List.length_cons, List.length_nil] at h1
  omega
/-- The same places, rising, are the cuts. -/
theorem cut_of {l : List Ed} {f : Int} {D : List Int} (h1 : D.Pairwise (· < ·)) (h2 : ∀ x, x ∈ D ↔ x ∈ cutP l f) : D = cutP l f :=
  asc_unique (R := (· < ·)) (fun a => Int.lt_irrefl a) (fun a b h k => by omega) _ _ h1 (cutP_asc l f) h2
/-- From each cut up to the next one. -/
def spC : List Int → List (Int × Int)
  | [] => []
  | t :: r => (t, r.headD 1125899906842624) :: spC r
theorem spC_len : ∀ c : List Int, (spC c).length = c.length
  | [] => rfl
  | t :: r => by rw [spC, List.length_cons, List.length_cons, spC_len r]
theorem spC_at : ∀ (c : List Int) (i : Nat) (t : Int), c[i]? = some t → (spC c)[i]? = some (t, (c[i + 1]?).getD 1125899906842624)
  | a :: r, 0, t, h => by
    simp at h
    subst h
    cases r <;> simp [spC]
  | a :: r, i + 1, t, h => by
    have := spC_at r i t (by simpa using h)
    simpa [spC] using this
/-- The parts that have rows. -/
def paG (G : List Gp) (ps : List (Int × Int)) : List Pt := (ps.filter fun p => !(alG G p.1).isEmpty).map fun p => (p, alG G p.1)
theorem paG_snoc (G : List Gp) (ps : List (Int × Int)) (p : Int × Int) : paG G (ps ++ [p]) = paG G ps ++ (if alG G p.1 = [] then [] else [(p, alG G p.1)]) := by
  unfold paG
  rw [List.filter_append, List.map_append]
  congr 1
  by_cases h : alG G p.1 = []
  · rw [if_pos h, List.filter_cons_of_neg (by simp [h])]; rfl
  · rw [if_neg h, List.filter_cons_of_pos (by simp [h])]; rfl
theorem paG_next {G : List Gp} {ps : List (Int × Int)} {k : Nat} {p : Int × Int} (h : ps[k]? = some p) : paG G (ps.take (k + 1)) = paG G (ps.take k) ++ (if alG G p.1 = [] then [] else [(p, alG G p.1)]) := by
  rw [List.take_add_one, h]; exact paG_snoc _ _ _
theorem paG_pre (G : List Gp) (ps : List (Int × Int)) (k : Nat) : (paG G (ps.take k)).length ≤ (paG G ps).length := by
  conv => rhs; rw [← List.take_append_drop k ps]
  unfold paG
  rw [List.filter_append, List.map_append, List.length_append]
  omega
/-- A tick. -/
def stick (n : Int) : Bool := decide (0 ≤ n) && decide (n ≤ 1125899906842624)
theorem stick_iff {n : Int} : stick n = true ↔ 0 ≤ n ∧ n ≤ 1125899906842624 := by unfold stick; simp
/-- What is told: what is wrong, and the cuts, or the parts. -/
def cuE (l : List Ed) (f : Int) : Int := if mayE l = true then (if tabE l = true then (if stick f = true then 0 else 13) else 20) else 2
def cuL (l : List Ed) (f : Int) : List Int := if cuE l f = 0 then (if f = 1125899906842624 then [] else cutP l f) else []
def snT (l : List Ed) (f : Int) : List Pt := paG (grp l) (spC (cuL l f))
def snE (l : List Ed) (f : Int) : Int := if cuE l f = 0 then (if 1024 < (snT l f).length then 7 else 0) else cuE l f
def snL (l : List Ed) (f : Int) : List Pt := if snE l f = 0 then snT l f else []
theorem cuE_zero {l : List Ed} {f : Int} : cuE l f = 0 ↔ mayE l = true ∧ tabE l = true ∧ stick f = true := by
  unfold cuE
  cases mayE l <;> cases tabE l <;> cases stick f <;> simp
theorem snE_zero {l : List Ed} {f : Int} (h : snE l f = 0) : cuE l f = 0 ∧ (snT l f).length ≤ 1024 := by
  unfold snE at h
  by_cases h0 : cuE l f = 0
  · rw [if_pos h0] at h
    refine ⟨h0, ?_⟩
    by_cases h1 : 1024 < (snT l f).length
    · rw [if_pos h1] at h; simp at h
    · omega
  · rw [if_neg h0] at h; exact absurd h h0
theorem cuL_len (l : List Ed) (f : Int) : (cuL l f).length ≤ l.length + 1 := by
  unfold cuL
  split
  · split
    · simp
    · exact cutP_len l f
  · simp
/-- A span has a tick. -/
def hasT (t : Int) (p : Int × Int) : Bool := decide (p.1 ≤ t) && decide (t < p.2)
theorem sp_none {t : Int} : ∀ c : List Int, c.Pairwise (· < ·) → (∀ x ∈ c, t < x) → (spC c).filter (hasT t) = []
  | [], _, _ => rfl
  | a :: r, hp, h => by
    have ha := h a (by simp)
    rw [spC, List.filter_cons_of_neg (by unfold hasT; simp; omega)]
    exact sp_none r (List.pairwise_cons.1 hp).2 fun x hx => h x (by simp [hx])
theorem sp_one {t : Int} (hF : t < 1125899906842624) : ∀ (c : List Int) (a : Int), (a :: c).Pairwise (· < ·) → a ≤ t → ∃ x u, (spC (a :: c)).filter (hasT t) = [(x, u)] ∧ a ≤ x ∧ x ≤ t ∧ ∀ y ∈ a :: c, y ≤ x ∨ t < y
  | [], a, _, ha => ⟨a, 1125899906842624, by simp [spC, hasT]; omega, Int.le_refl _, ha, by simp⟩
  | b :: c, a, hp, ha => by
    have hab := (List.pairwise_cons.1 hp).1 b (by simp)
    by_cases hb : b ≤ t
    · obtain ⟨x, u, h1, h2, h3, h4⟩ := sp_one hF c b (List.pairwise_cons.1 hp).2 hb
      refine ⟨x, u, ?_, by omega, h3, ?_⟩
      · rw [spC, List.filter_cons_of_neg (by unfold hasT; simp; omega)]
        exact h1
      · intro y hy
        rcases List.mem_cons.1 hy with rfl | hy
        · left; omega
        · exact h4 y hy
    · refine ⟨a, b, ?_, Int.le_refl _, ha, ?_⟩
      · rw [spC, List.filter_cons_of_pos (by unfold hasT; simp; omega), sp_none (b :: c) (List.pairwise_cons.1 hp).2 fun x hx => ?_]
        · rfl
        · rcases List.mem_cons.1 hx with rfl | hx
          · omega
          · have := (List.pairwise_cons.1 (List.pairwise_cons.1 hp).2).1 x hx; omega
      · intro y hy
        rcases List.mem_cons.1 hy with rfl | hy
        · left; omega
        · rcases List.mem_cons.1 hy with rfl | hy
          · right; omega
          · right; have := (List.pairwise_cons.1 (List.pairwise_cons.1 hp).2).1 y hy; omega
theorem paG_filter (G : List Gp) (t : Int) (ps : List (Int × Int)) : (paG G ps).filter (fun p => hasT t p.1) = paG G (ps.filter (hasT t)) := by
  unfold paG
  rw [List.filter_map, List.filter_filter, List.filter_filter]
  congr 1
  exact List.filter_congr fun x _ => by simp [Function.comp, Bool.and_comm]
theorem alG_same {G : List Gp} {s t : Int} (h : ∀ g ∈ G, atV g.2 s = atV g.2 t) : alG G s = alG G t := by
  unfold alG
  rw [List.filter_congr (fun g hg => by rw [h g hg])]
  exact List.map_congr_left fun g hg => by rw [h g (List.mem_filter.1 hg).1]
/-- What is there at a tick is what is there at the last cut. -/
theorem al_cut {l : List Ed} {f t x : Int} (hm : mayE l = true) (hfx : f ≤ x) (hx : x ≤ t) (h : ∀ y ∈ cutP l f, y ≤ x ∨ t < y) : alG (grp l) x = alG (grp l) t := by
  refine alG_same fun g hg => ?_
  have hj := (mayE_iff.1 hm).2.2 g hg
  have hg2 := ((grp_rows (mayE_rise hm)).2.2 g hg).1
  rw [atV_of' hj, atV_of' hj]
  refine jv_between hx fun j hjm => ?_
  rw [hg2] at hjm
  have he := jmps_mem.1 hjm
  by_cases hf : f < j.1
  · exact h j.1 ((cutP_mem l f j.1).2 (.inr ⟨hf, _, he, rfl⟩))
  · left; omega
where
  atV_of' {l : List Jp} (h : mayJ l = true) {t : Int} : atV l t = jv l t := by unfold atV; rw [if_pos h]
/-- At each tick just one snapshot has the rows that are there. -/
theorem sn_tick {l : List Ed} {f t : Int} (he : snE l f = 0) (hf : f ≤ t) (ht : t < 1125899906842624) : (snL l f).filter (fun p => hasT t p.1) = [] ∧ alG (grp l) t = [] ∨ ∃ s, (snL l f).filter (fun p => hasT t p.1) = [(s, alG (grp l) t)] := by
  obtain ⟨h0, -⟩ := snE_zero he
  obtain ⟨hm, -, -⟩ := cuE_zero.1 h0
  have e1 : cuL l f = cutP l f := by unfold cuL; rw [if_pos h0, if_neg (by omega)]
  unfold snL
  rw [if_pos he]
  unfold snT
  rw [e1, paG_filter]
  have ha := cutP_asc l f
  have hfm := (cutP_mem l f f).2 (.inl rfl)
  have hall := cutP_mem l f
  have hhead : ∃ c, cutP l f = f :: c := by
    cases hc : cutP l f with
    | nil => rw [hc] at hfm; cases hfm
    | cons a c =>
      rw [hc] at ha hfm
      have ha1 := (hall a).1 (by rw [hc]; simp)
      rcases List.mem_cons.1 hfm with e | hm2
      · exact ⟨c, by rw [e]⟩
      · have := (List.pairwise_cons.1 ha).1 f hm2
        rcases ha1 with e | ⟨h3, -⟩ <;> omega
  obtain ⟨c, hc⟩ := hhead
  rw [hc] at ha
  obtain ⟨x, u, h1, h2, h3, h4⟩ := sp_one ht c f ha hf
  have hal := al_cut (f := f) hm h2 h3 (by rw [hc]; exact h4)
  rw [hc, h1]
  have hp := paG_snoc (grp l) [] (x, u)
  rw [List.nil_append] at hp
  rw [hp]
  simp only [hal]
  by_cases hem : alG (grp l) t = []
  · left
    rw [if_pos hem]
    exact ⟨rfl, hem⟩
  · right
    rw [if_neg hem]
    exact ⟨_, rfl⟩
end Go.Proofs.Ytjdbjnpomndfjaa
