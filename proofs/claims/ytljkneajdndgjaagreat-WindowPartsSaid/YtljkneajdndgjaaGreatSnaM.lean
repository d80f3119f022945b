/-
  A helper of ours: no claim of its own. Windows in memory: copies of rows, and parts with their spans and copies.
-/
import Derived.Test.YtljkneajdndgjaaGreatStepE
import Derived.Test.YtljkneajdndgjaaGreatSort
import Derived.StillTail
import Derived.Lib.SliceRun
import Derived.Test.YtljkneajdndgjaaGreatEdgO
import Derived.Test.YtljkneajdndgjaaGreatEdgM
import Derived.Test.YtljkneajdndgjaaGreatEdgGr
import Derived.Test.YtljkneajdndgjaaGreatStepA
import Derived.Test.YtljkneajdndgjaaGreatRfw
set_option linter.unusedVariables false
set_option linter.unusedSimpArgs false
namespace Go.Proofs.YtljkneajdndgjaaGreat
open Go.RowKit
attribute [local go_sem] GW.cell GW.frozen In.eq_true In.le_true In.ne In.ne' In.ne_add In.ne_add' In.lt_add Upto.le_true Upto.le_add Upto.lt_add
end Go.Proofs.YtljkneajdndgjaaGreat
set_option linter.unusedVariables false
set_option linter.unusedSimpArgs false
namespace Go.Proofs.YtljkneajdndgjaaGreat
open Go.RowKit
attribute [local go_sem] GW.cell GW.frozen In.eq_true In.le_true In.ne In.ne' In.ne_add In.ne_add' In.lt_add Upto.le_true Upto.le_add Upto.lt_add
end Go.Proofs.YtljkneajdndgjaaGreat
set_option linter.unusedVariables false
set_option linter.unusedSimpArgs false
namespace Go.Proofs.YtljkneajdndgjaaGreat
open Go.RowKit
attribute [local go_sem] GW.cell GW.frozen In.eq_true In.le_true In.ne In.ne' In.ne_add In.ne_add' In.lt_add Upto.le_true Upto.le_add Upto.lt_add
end Go.Proofs.YtljkneajdndgjaaGreat
set_option linter.unusedVariables false
set_option linter.unusedSimpArgs false
namespace Go.Proofs.YtljkneajdndgjaaGreat
open Go.RowKit
attribute [local go_sem] GW.cell GW.frozen In.eq_true In.le_true In.ne In.ne' In.ne_add In.ne_add' In.lt_add Upto.le_true Upto.le_add Upto.lt_add
end Go.Proofs.YtljkneajdndgjaaGreat
set_option linter.unusedVariables false
set_option linter.unusedSimpArgs false
namespace Go.Proofs.YtljkneajdndgjaaGreat
open Go.RowKit
attribute [local go_sem] GW.cell GW.frozen In.eq_true In.le_true In.ne In.ne' In.ne_add In.ne_add' In.lt_add Upto.le_true Upto.le_add Upto.lt_add Oper.semAt_some wide_depth wide_fn
theorem ob_obj {w : World} {base e size n : Nat} {v : Value} {xs : List Value} (h : w.ownsRow base e size v n xs) : ∀ y ∈ ob v, ∃ T vs, Ob w y T vs := by
  intro y hy
  have hy' : v.ownBlock = some y := by simpa [ob] using hy
  rcases h.2 with ⟨rfl, _⟩ | ⟨g, cap, cur, rfl, hb, hg, _⟩
  · cases hy'
  · have : y = g := by simpa [Value.ownBlock] using hy'.symm
    subst this
    exact ⟨e, cur.toList, by unfold Ob; simpa using hg⟩
def ownF (B : Nat) (q : List Vl) (R : List Jp) : Fact := .st (fun u w => ∃ M2, eds M2 = R.map (fun j => (q, j)) ∧ OwnEr w B u M2) (fun _ _ _ h k => by obtain ⟨M2, h1, h2⟩ := h; exact ⟨M2, h1, h2.ext k⟩)
theorem grp_len : ∀ l : List Ed, (grp l).length ≤ l.length
  | [] => Nat.le_refl _
  | e :: r => by
    have ih := grp_len r
    unfold grp
    split
    · simp
    · rename_i q f t h
      rw [h] at ih
      split <;> simp only [List.length_cons] at ih ⊢ <;> omega

end Go.Proofs.YtljkneajdndgjaaGreat
set_option linter.unusedVariables false
set_option linter.unusedSimpArgs false
namespace Go.Proofs.YtljkneajdndgjaaGreat
open Go.RowKit
attribute [local go_sem] GW.cell GW.frozen In.eq_true In.le_true In.ne In.ne' In.ne_add In.ne_add' In.lt_add Upto.le_true Upto.le_add Upto.lt_add
theorem mayE_len {l : List Ed} (h : mayE l = true) : l.length ≤ 4096 := (mayE_iff.1 h).1
theorem mayE_jl {l : List Ed} (h : mayE l = true) (r : List Vl) : (jmps l r).length ≤ 1024 := by
  obtain ⟨-, h2, h3⟩ := mayE_iff.1 h
  obtain ⟨-, k2⟩ := rowsL_ok h2.1
  by_cases hr : r ∈ rowsL l
  · have := h3 (r, jmps l r) (by rw [grp_eq h2]; exact List.mem_map.2 ⟨r, hr, rfl⟩)
    exact mayJ_len this
  · have : jmps l r = [] := by
      apply List.eq_nil_iff_forall_not_mem.2
      intro j hj
      exact hr ((k2 r).2 ⟨_, jmps_mem.1 hj, rfl⟩)
    rw [this]; simp
end Go.Proofs.YtljkneajdndgjaaGreat
set_option linter.unusedVariables false
set_option linter.unusedSimpArgs false
namespace Go.Proofs.YtljkneajdndgjaaGreat
open Go.RowKit
attribute [local go_sem] GW.cell GW.frozen In.eq_true In.le_true In.ne In.ne' In.ne_add In.ne_add' In.lt_add Upto.le_true Upto.le_add Upto.lt_add Oper.semAt_some wide_depth wide_fn
end Go.Proofs.YtljkneajdndgjaaGreat
set_option linter.unusedVariables false
set_option linter.unusedSimpArgs false
namespace Go.Proofs.YtljkneajdndgjaaGreat
open Go.RowKit
attribute [local go_sem] GW.cell GW.frozen In.eq_true In.le_true In.ne In.ne' In.ne_add In.ne_add' In.lt_add Upto.le_true Upto.le_add Upto.lt_add Oper.semAt_some wide_depth wide_fn
end Go.Proofs.YtljkneajdndgjaaGreat
set_option linter.unusedVariables false
set_option linter.unusedSimpArgs false
namespace Go.Proofs.YtljkneajdndgjaaGreat
open Go.RowKit
attribute [local go_sem] GW.cell GW.frozen In.eq_true In.le_true In.ne In.ne' In.ne_add In.ne_add' In.lt_add Upto.le_true Upto.le_add Upto.lt_add Oper.semAt_some wide_depth wide_fn
end Go.Proofs.YtljkneajdndgjaaGreat
set_option linter.unusedVariables false
set_option linter.unusedSimpArgs false
namespace Go.Proofs.YtljkneajdndgjaaGreat
open Go.RowKit
attribute [local go_sem] GW.cell GW.frozen In.eq_true In.le_true In.ne In.ne' In.ne_add In.ne_add' In.lt_add Upto.le_true Upto.le_add Upto.lt_add
theorem grp_r8 {l : List Ed} (h : mayE l = true) : ∀ g ∈ grp l, g.1.length ≤ 8 := fun g hg => by
  obtain ⟨k1, k2, k3⟩ := grp_rows (mayE_rise h)
  obtain ⟨e, he, hee⟩ := (k2 g.1).1 (List.mem_map.2 ⟨g, hg, rfl⟩)
  rw [← hee]
  exact mayR_len ((mayE_rise h).1 e he)
end Go.Proofs.YtljkneajdndgjaaGreat
set_option linter.unusedVariables false
set_option linter.unusedSimpArgs false
namespace Go.Proofs.YtljkneajdndgjaaGreat
open Go.RowKit
theorem grp_back : ∀ l : List Ed, evL (fun f => (0, f)) (grp l) = l
  | [] => rfl
  | e :: r => by
    have ih := grp_back r
    unfold grp
    cases h : grp r with
    | nil =>
      rw [h] at ih
      have hr : r = [] := by rw [← ih]; rfl
      subst hr
      rfl
    | cons g t =>
      obtain ⟨q, f⟩ := g
      rw [h] at ih
      simp only [evL, List.flatMap_cons] at ih ⊢
      by_cases hq : q = e.1
      · simp only [if_pos hq, List.flatMap_cons, List.map_cons, List.cons_append]
        rw [ih, hq]
      · simp only [if_neg hq, List.flatMap_cons, List.map_cons, List.map_nil, List.cons_append, List.nil_append]
        rw [ih]
theorem mem_rows {l : List Ed} (hv : ∀ e ∈ l, mayR e.1 = true) (r : List Vl) : r ∈ rowsL l ↔ jmps l r ≠ [] := by
  rw [(rowsL_ok hv).2 r]
  constructor
  · rintro ⟨⟨q, j⟩, he, rfl⟩ h
    have := jmps_mem.2 he
    rw [h] at this; cases this
  · intro h
    obtain ⟨j, hj⟩ := List.exists_mem_of_ne_nil _ h
    exact ⟨_, jmps_mem.1 hj, rfl⟩
theorem mayJ_rows {l : List Ed} (h : mayE l = true) (r : List Vl) : mayJ (jmps l r) = true := by
  obtain ⟨-, h2, h3⟩ := mayE_iff.1 h
  by_cases hr : r ∈ rowsL l
  · exact h3 (r, jmps l r) (by rw [grp_eq h2]; exact List.mem_map.2 ⟨r, hr, rfl⟩)
  · rw [mem_rows h2.1] at hr
    rw [Decidable.not_not.1 hr]; exact mayJ_nil
end Go.Proofs.YtljkneajdndgjaaGreat
set_option linter.unusedVariables false
set_option linter.unusedSimpArgs false
namespace Go.Proofs.YtljkneajdndgjaaGreat
open Go.RowKit
/-- A copy: a row, how often. A part: from, to; its rows. -/
abbrev Cp := List Vl × Int
abbrev Pt := (Int × Int) × List Cp
/-- The rows of a table that are there at a tick. -/
def alG (G : List Gp) (t : Int) : List Cp := (G.filter fun g => decide (0 < atV g.2 t)).map fun g => (g.1, atV g.2 t)
theorem alG_snoc (G : List Gp) (g : Gp) (t : Int) : alG (G ++ [g]) t = alG G t ++ (if 0 < atV g.2 t then [(g.1, atV g.2 t)] else []) := by
  unfold alG
  rw [List.filter_append, List.map_append]
  congr 1
  by_cases h : 0 < atV g.2 t
  · rw [if_pos h, List.filter_cons_of_pos (by simpa using h)]; rfl
  · rw [if_neg h, List.filter_cons_of_neg (by simpa using h)]; rfl
theorem alG_next {G : List Gp} {k : Nat} {g : Gp} (h : G[k]? = some g) (t : Int) : alG (G.take (k + 1)) t = alG (G.take k) t ++ (if 0 < atV g.2 t then [(g.1, atV g.2 t)] else []) := by
  rw [List.take_add_one, h]; exact alG_snoc _ _ _
theorem alG_len (G : List Gp) (t : Int) : (alG G t).length ≤ G.length := by
  unfold alG
  rw [List.length_map]
  exact List.length_filter_le _ _
/-- Where something changes above a tick, and the tick. -/
def cutP (l : List Ed) (f : Int) : List Int := plc [f] ((l.map Prod.snd).filter fun j => decide (f < j.1))
theorem cutP_nil (f : Int) : cutP [] f = [f] := rfl
theorem cutP_snoc (l : List Ed) (e : Ed) (f : Int) : cutP (l ++ [e]) f = if f < e.2.1 then ins (cutP l f) e.2.1 else cutP l f := by
  unfold cutP
  rw [List.map_append, List.filter_append]
  by_cases h : f < e.2.1
  · rw [if_pos h, List.map_cons, List.filter_cons_of_pos (by simpa using h)]
    exact plc_snoc _ _ _
  · rw [if_neg h, List.map_cons, List.filter_cons_of_neg (by simpa using h)]
    simp
theorem cutP_next {l : List Ed} {k : Nat} {e : Ed} (h : l[k]? = some e) (f : Int) : cutP (l.take (k + 1)) f = if f < e.2.1 then ins (cutP (l.take k) f) e.2.1 else cutP (l.take k) f := by
  rw [List.take_add_one, h]; exact cutP_snoc _ _ _
theorem cutP_asc (l : List Ed) (f : Int) : (cutP l f).Pairwise (· < ·) := plc_asc _ _ (by simp)
theorem cutP_len (l : List Ed) (f : Int) : (cutP l f).length ≤ l.length + 1 := by
  unfold cutP
  have h1 := plc_length ((l.map Prod.snd).filter fun j => decide (f < j.1)) [f] (by simp)
  have h2 := List.length_filter_le (fun j : Jp => decide (f < j.1)) (l.map Prod.snd)
  rw [List.length_map] at h2
  simp only [List.length_cons, List.length_nil] at h1
  omega
/-- The same places, rising, are the cuts. -/
theorem cut_of {l : List Ed} {f : Int} {D : List Int} (h1 : D.Pairwise (· < ·)) (h2 : ∀ x, x ∈ D ↔ x ∈ cutP l f) : D = cutP l f :=
  asc_unique (R := (· < ·)) (fun a => Int.lt_irrefl a) (fun a b h k => by omega) _ _ h1 (cutP_asc l f) h2
/-- From each cut up to the next one. -/
def spC : List Int → List (Int × Int)
  | [] => []
  | t :: r => (t, r.headD 1125899906842624) :: spC r
theorem spC_len : ∀ c : List Int, (spC c).length = c.length
  | [] => rfl
  | t :: r => by rw [spC, List.length_cons, List.length_cons, spC_len r]
theorem spC_at : ∀ (c : List Int) (i : Nat) (t : Int), c[i]? = some t → (spC c)[i]? = some (t, (c[i + 1]?).getD 1125899906842624)
  | a :: r, 0, t, h => by
    simp at h
    subst h
    cases r <;> simp [spC]
  | a :: r, i + 1, t, h => by
    have := spC_at r i t (by simpa using h)
    simpa [spC] using this
/-- The parts that have rows. -/
def paG (G : List Gp) (ps : List (Int × Int)) : List Pt := (ps.filter fun p => !(alG G p.1).isEmpty).map fun p => (p, alG G p.1)
theorem paG_snoc (G : List Gp) (ps : List (Int × Int)) (p : Int × Int) : paG G (ps ++ [p]) = paG G ps ++ (if alG G p.1 = [] then [] else [(p, alG G p.1)]) := by
  unfold paG
  rw [List.filter_append, List.map_append]
  congr 1
  by_cases h : alG G p.1 = []
  · rw [if_pos h, List.filter_cons_of_neg (by simp [h])]; rfl
  · rw [if_neg h, List.filter_cons_of_pos (by simp [h])]; rfl
theorem paG_next {G : List Gp} {ps : List (Int × Int)} {k : Nat} {p : Int × Int} (h : ps[k]? = some p) : paG G (ps.take (k + 1)) = paG G (ps.take k) ++ (if alG G p.1 = [] then [] else [(p, alG G p.1)]) := by
  rw [List.take_add_one, h]; exact paG_snoc _ _ _
theorem paG_pre (G : List Gp) (ps : List (Int × Int)) (k : Nat) : (paG G (ps.take k)).length ≤ (paG G ps).length := by
  conv => rhs; rw [← List.take_append_drop k ps]
  unfold paG
  rw [List.filter_append, List.map_append, List.length_append]
  omega
/-- A tick. -/
def stick (n : Int) : Bool := decide (0 ≤ n) && decide (n ≤ 1125899906842624)
theorem stick_iff {n : Int} : stick n = true ↔ 0 ≤ n ∧ n ≤ 1125899906842624 := by unfold stick; simp
/-- What is told: what is wrong, and the cuts, or the parts. -/
def cuE (l : List Ed) (f : Int) : Int := if mayE l = true then (if tabE l = true then (if stick f = true then 0 else 13) else 20) else 2
def cuL (l : List Ed) (f : Int) : List Int := if cuE l f = 0 then (if f = 1125899906842624 then [] else cutP l f) else []
def snT (l : List Ed) (f : Int) : List Pt := paG (grp l) (spC (cuL l f))
def snE (l : List Ed) (f : Int) : Int := if cuE l f = 0 then (if 1024 < (snT l f).length then 7 else 0) else cuE l f
def snL (l : List Ed) (f : Int) : List Pt := if snE l f = 0 then snT l f else []
theorem cuE_zero {l : List Ed} {f : Int} : cuE l f = 0 ↔ mayE l = true ∧ tabE l = true ∧ stick f = true := by
  unfold cuE
  cases mayE l <;> cases tabE l <;> cases stick f <;> simp
theorem cuL_len (l : List Ed) (f : Int) : (cuL l f).length ≤ l.length + 1 := by
  unfold cuL
  split
  · split
    · simp
    · exact cutP_len l f
  · simp
end Go.Proofs.YtljkneajdndgjaaGreat
set_option linter.unusedVariables false
set_option linter.unusedSimpArgs false
namespace Go.Proofs.YtljkneajdndgjaaGreat
open Go.RowKit
/-- A copy as it lies: its row's slice, and the copy. -/
abbrev Vc := Value × Cp
def cc1 (p : Vc) : List Value := [p.1, .int .i64 p.2.2]
def cc (L : List Vc) : List Value := L.flatMap cc1
abbrev cps (L : List Vc) : List Cp := L.map Prod.snd
theorem cc_cons (p : Vc) (L : List Vc) : cc (p :: L) = cc1 p ++ cc L := by simp [cc]
theorem cc_append (L M : List Vc) : cc (L ++ M) = cc L ++ cc M := by simp [cc]
theorem cc_get : ∀ (L : List Vc) (i : Nat) (p : Vc), L[i]? = some p → ∀ j v, (cc1 p)[j]? = some v → (cc L)[i * 2 + j]? = some v
  | q :: r, 0, p, h, j, v, hv => by
    simp at h; subst h
    have hj : j < (cc1 q).length := (List.getElem?_eq_some_iff.1 hv).1
    rw [cc_cons, List.getElem?_append_left (by omega), show 0 * 2 + j = j by omega]; exact hv
  | q :: r, i + 1, p, h, j, v, hv => by
    have := cc_get r i p (by simpa using h) j v hv
    rw [cc_cons, show (i + 1) * 2 + j = (cc1 q).length + (i * 2 + j) by simp [cc1]; omega, List.getElem?_append_right (by omega), Nat.add_sub_cancel_left]
    exact this
theorem cc_set : ∀ (L : List Vc) (i : Nat) (p : Vc) (u : Value), L[i]? = some p → (cc L).set (i * 2) u = cc (L.set i (u, p.2))
  | q :: r, 0, p, u, h => by
    simp at h; subst h
    simp [cc_cons, cc1]
  | q :: r, i + 1, p, u, h => by
    have := cc_set r i p u (by simpa using h)
    rw [cc_cons, List.set_cons_succ, cc_cons, ← this, show (i + 1) * 2 = (cc1 q).length + i * 2 by simp [cc1]; omega, List.set_append_right _ _ (by omega), Nat.add_sub_cancel_left]
theorem cps_set {L : List Vc} {i : Nat} {p : Vc} (h : L[i]? = some p) (u : Value) : cps (L.set i (u, p.2)) = cps L := by
  apply List.ext_getElem?
  intro j
  rw [List.getElem?_map, List.getElem?_map, List.getElem?_set]
  by_cases hj : i = j
  · subst hj
    rw [if_pos rfl, h]
    have : i < L.length := (List.getElem?_eq_some_iff.1 h).1
    simp [this]
  · rw [if_neg hj]
/-- Copies, where they lie. -/
def Cw (w : World) (S : List Nat) (v : Value) (L : List Vc) : Prop := Sl w S 2 v L.length (cc L) ∧ ∀ p ∈ L, Rw w S p.1 p.2.1
/-- A part as it lies: the slice of its rows, its span, its copies. -/
abbrev Vp := Value × ((Int × Int) × List Vc)
def pt1 (p : Vp) : List Value := [.int .i64 p.2.1.1, .int .i64 p.2.1.2, p.1]
def pt (P : List Vp) : List Value := P.flatMap pt1
abbrev pts (P : List Vp) : List Pt := P.map fun p => (p.2.1, cps p.2.2)
theorem pt_cons (p : Vp) (L : List Vp) : pt (p :: L) = pt1 p ++ pt L := by simp [pt]
theorem pt_append (L M : List Vp) : pt (L ++ M) = pt L ++ pt M := by simp [pt]
theorem pts_append (L M : List Vp) : pts (L ++ M) = pts L ++ pts M := List.map_append
theorem pt_get : ∀ (L : List Vp) (i : Nat) (p : Vp), L[i]? = some p → ∀ j v, (pt1 p)[j]? = some v → (pt L)[i * 3 + j]? = some v
  | q :: r, 0, p, h, j, v, hv => by
    simp at h; subst h
    have hj : j < (pt1 q).length := (List.getElem?_eq_some_iff.1 hv).1
    rw [pt_cons, List.getElem?_append_left (by omega), show 0 * 3 + j = j by omega]; exact hv
  | q :: r, i + 1, p, h, j, v, hv => by
    have := pt_get r i p (by simpa using h) j v hv
    rw [pt_cons, show (i + 1) * 3 + j = (pt1 q).length + (i * 3 + j) by simp [pt1]; omega, List.getElem?_append_right (by omega), Nat.add_sub_cancel_left]
    exact this
/-- Parts, where they lie. -/
def Pw (w : World) (S : List Nat) (v : Value) (P : List Vp) : Prop := Sl w S 3 v P.length (pt P) ∧ ∀ p ∈ P, Cw w S p.1 p.2.2
section
variable {w w' : World} {S S' : List Nat} {v : Value} {L : List Vc} {P : List Vp}
theorem Cw.ext (h : Cw w S v L) (k : Ext w w') : Cw w' S v L := ⟨Sl.ext h.1 k, fun p hp => Sl.ext (h.2 p hp) k⟩
theorem Pw.ext (h : Pw w S v P) (k : Ext w w') : Pw w' S v P := ⟨Sl.ext h.1 k, fun p hp => (h.2 p hp).ext k⟩
theorem cw_form (h : Cw w S v L) : ∃ A cap, v = .slice A L.length cap ∧ L.length ≤ cap ∧ cap ≤ maxLen ∧
    ∀ (i : Nat) (p : Vc), L[i]? = some p → ∃ b o, A = some ⟨b, o, none⟩ ∧ b ∉ S ∧ b < w.heap.size ∧ w.cell? ⟨b, o + i * 2, none⟩ = some p.1 ∧ w.cell? ⟨b, o + i * 2 + 1, none⟩ = some (.int .i64 p.2.2) := by
  obtain ⟨A, cap, rfl, h1, h2, h3, h4⟩ := h.1
  refine ⟨A, cap, rfl, h1, h2, fun i p hp => ?_⟩
  have hg := cc_get L i p hp
  rcases h4 with h4 | ⟨b, o, rfl, hb, hc⟩
  · have := hg 0 p.1 rfl
    rw [h4] at this
    simp at this
  · have c0 := hc _ _ (hg 0 p.1 rfl)
    have c1 := hc _ _ (hg 1 _ rfl)
    exact ⟨b, o, rfl, hb, block_lt_of_cell c0, by simpa [Nat.add_assoc] using c0, by simpa [Nat.add_assoc] using c1⟩
theorem pw_form (h : Pw w S v P) : ∃ A cap, v = .slice A P.length cap ∧ P.length ≤ cap ∧ cap ≤ maxLen ∧
    ∀ (i : Nat) (p : Vp), P[i]? = some p → ∃ b o, A = some ⟨b, o, none⟩ ∧ b ∉ S ∧ b < w.heap.size ∧ w.cell? ⟨b, o + i * 3, none⟩ = some (.int .i64 p.2.1.1) ∧ w.cell? ⟨b, o + i * 3 + 1, none⟩ = some (.int .i64 p.2.1.2) ∧ w.cell? ⟨b, o + i * 3 + 1 + 1, none⟩ = some p.1 := by
  obtain ⟨A, cap, rfl, h1, h2, h3, h4⟩ := h.1
  refine ⟨A, cap, rfl, h1, h2, fun i p hp => ?_⟩
  have hg := pt_get P i p hp
  rcases h4 with h4 | ⟨b, o, rfl, hb, hc⟩
  · have := hg 0 _ rfl
    rw [h4] at this
    simp at this
  · have c0 := hc _ _ (hg 0 _ rfl)
    have c1 := hc _ _ (hg 1 _ rfl)
    have c2 := hc _ _ (hg 2 _ rfl)
    exact ⟨b, o, rfl, hb, block_lt_of_cell c0, by simpa [Nat.add_assoc] using c0, by simpa [Nat.add_assoc] using c1, by simpa [Nat.add_assoc] using c2⟩
end
/-- A slice of one's own stays where other blocks are turned. -/
theorem own_away {w w' : World} {S : List Nat} {base e sz n : Nat} {v : Value} {xs : List Value} (h : w.ownsRow base e sz v n xs) (hF : Fr S w w') (hS : ∀ b ∈ S, b ∉ ob v) : w'.ownsRow base e sz v n xs := by
  refine ⟨h.1, ?_⟩
  rcases h.2 with h2 | ⟨g, cap, cur, rfl, hb, hg, r⟩
  · exact .inl h2
  · exact .inr ⟨g, cap, cur, rfl, hb, (hF.block g (lt_of_block hg) (fun m => hS g m (by simp [ob, Value.ownBlock]))).trans hg, r⟩
theorem own_kind {w : World} {base e sz n : Nat} {v : Value} {xs : List Value} (h : w.ownsRow base e sz v n xs) {b : Nat} (hb : b ∈ ob v) : ∃ cs c, w.heap[b]? = some (.cells cs e c) := by
  rcases h.2 with ⟨rfl, -⟩ | ⟨g, cap, cur, rfl, -, hg, -⟩
  · simp [ob, Value.ownBlock] at hb
  · have : b = g := by simpa [ob, Value.ownBlock] using hb
    subst this
    exact ⟨_, _, hg⟩
theorem own_far {w : World} {b1 e1 s1 n1 b2 e2 s2 n2 : Nat} {v1 v2 : Value} {xs1 xs2 : List Value} (h : w.ownsRow b1 e1 s1 v1 n1 xs1) (k : w.ownsRow b2 e2 s2 v2 n2 xs2) (he : e1 ≠ e2) : ∀ b ∈ ob v1, b ∉ ob v2 := by
  intro b h1 h2
  obtain ⟨cs, c, g1⟩ := own_kind h h1
  obtain ⟨ds, d, g2⟩ := own_kind k h2
  rw [g1] at g2
  injection g2 with g2
  injection g2 with _ g2
  exact he g2
/-- Copies of one's own; parts of one's own. -/
def OwnC (w : World) (B : Nat) (v : Value) (L : List Vc) : Prop := w.ownsRow B 56 2 v L.length (cc L) ∧ ∀ p ∈ L, OwnR w 0 p.1 p.2.1
def OwnP (w : World) (B : Nat) (v : Value) (P : List Vp) : Prop := w.ownsRow B 52 3 v P.length (pt P) ∧ ∀ p ∈ P, OwnC w B p.1 p.2.2
/-- No two parts share the block of their rows. -/
def Dis (P : List Vp) : Prop := P.Pairwise fun p q => ∀ b ∈ ob p.1, b ∉ ob q.1
section
variable {w w' : World} {S : List Nat} {B B' : Nat} {v : Value} {L : List Vc} {P : List Vp}
theorem OwnC.nil (w : World) (B : Nat) : OwnC w B (.slice none 0 0) [] := ⟨World.ownsRow_nil _ _ _ _, by simp⟩
theorem OwnP.nil (w : World) (B : Nat) : OwnP w B (.slice none 0 0) [] := ⟨World.ownsRow_nil _ _ _ _, by simp⟩
theorem OwnC.ext (h : OwnC w B v L) (k : Ext w w') : OwnC w' B v L := ⟨own_ext h.1 k, fun p hp => own_ext (h.2 p hp) k⟩
theorem OwnP.ext (h : OwnP w B v P) (k : Ext w w') : OwnP w' B v P := ⟨own_ext h.1 k, fun p hp => (h.2 p hp).ext k⟩
theorem OwnC.base (h : OwnC w B v L) (hb : B' ≤ B) : OwnC w B' v L := ⟨own_base h.1 hb, h.2⟩
theorem OwnP.base (h : OwnP w B v P) (hb : B' ≤ B) : OwnP w B' v P := ⟨own_base h.1 hb, fun p hp => (h.2 p hp).base hb⟩
theorem OwnC.cw (h : OwnC w B v L) : Cw w [] v L := ⟨Sl.own h.1 (by simp), fun p hp => Sl.own (h.2 p hp) (by simp)⟩
theorem OwnP.pw (h : OwnP w B v P) : Pw w [] v P := ⟨Sl.own h.1 (by simp), fun p hp => (h.2 p hp).cw⟩
/-- Copies stay, where blocks are turned that are neither theirs nor rows. -/
theorem OwnC.away (h : OwnC w B v L) (hF : Fr S w w') (hS : ∀ b ∈ S, b ∉ ob v ∧ ∀ cs c, w.heap[b]? ≠ some (.cells cs 64 c)) : OwnC w' B v L :=
  ⟨own_away h.1 hF fun b hb => (hS b hb).1, fun p hp => own_away (h.2 p hp) hF fun b hb hb2 => by
    obtain ⟨cs, c, hc⟩ := own_kind (h.2 p hp) hb2
    exact (hS b hb).2 cs c hc⟩
theorem OwnP.away (h : OwnP w B v P) (hF : Fr S w w') (hS : ∀ b ∈ S, (b ∉ ob v ∧ ∀ p ∈ P, b ∉ ob p.1) ∧ ∀ cs c, w.heap[b]? ≠ some (.cells cs 64 c)) : OwnP w' B v P :=
  ⟨own_away h.1 hF fun b hb => (hS b hb).1.1, fun p hp => (h.2 p hp).away hF fun b hb => ⟨(hS b hb).1.2 p hp, (hS b hb).2⟩⟩
theorem OwnC.form (h : OwnC w B v L) : ∃ A cap, v = .slice A L.length cap := own_form h.1
theorem OwnP.form (h : OwnP w B v P) : ∃ A cap, v = .slice A P.length cap := own_form h.1
theorem copy_no_value {g : Nat} {cs : Array Value} {c : Nat × Nat} (h : w.heap[g]? = some (.cells cs 56 c)) : ∀ cs c, w.heap[g]? ≠ some (.cells cs 64 c) := by
  intro ds d hd
  rw [h] at hd
  injection hd with hd
  injection hd with _ hd
  exact absurd hd (by decide)
theorem own_block2 {base e sz n : Nat} {xs : List Value} (h : w.ownsRow base e sz v n xs) (hn : 0 < n) : ∃ g cap, v = .slice (some ⟨g, 0, none⟩) n cap ∧ base ≤ g ∧ g < w.heap.size := by
  rcases h.2 with ⟨-, h0⟩ | ⟨g, cap, cur, rfl, hb, hg, -⟩
  · omega
  · exact ⟨g, cap, rfl, hb, lt_of_block hg⟩
/-- A row is put in another one's place, of the same values. -/
theorem OwnC.set {g n cap k : Nat} {c : Vc} {u : Value} (h : OwnC w B (.slice (some ⟨g, 0, none⟩) n cap) L) (hk : L[k]? = some c) (hu : OwnR w 0 u c.2.1) : OwnC (w.setCell ⟨g, k * 2, none⟩ u) B (.slice (some ⟨g, 0, none⟩) n cap) (L.set k (u, c.2)) := by
  obtain ⟨h1, h2⟩ := h
  obtain ⟨A, cp, e⟩ := own_form h1
  simp only [Value.slice.injEq] at e
  obtain ⟨rfl, rfl, rfl⟩ := e
  obtain ⟨cs, cn, hc⟩ := own_kind h1 (b := g) (by simp [ob, Value.ownBlock])
  have hF : Fr [g] w (w.setCell ⟨g, k * 2, none⟩ u) := (Fr.refl [g] w).setCell ⟨g, k * 2, none⟩ u (.inl (by simp))
  have hrow : ∀ x r, OwnR w 0 x r → OwnR (w.setCell ⟨g, k * 2, none⟩ u) 0 x r := fun x r hx => own_away hx hF fun b hb hb2 => by
    rw [List.mem_singleton] at hb
    subst hb
    obtain ⟨ds, d, hd⟩ := own_kind hx hb2
    exact copy_no_value hc _ _ hd
  have hs := (World.ownsRow.stored h1 (k * 2) u).1
  rw [cc_set L k c u hk] at hs
  refine ⟨by rw [List.length_set]; exact hs, fun p hp => ?_⟩
  rcases List.mem_or_eq_of_mem_set hp with hp | rfl
  · exact hrow _ _ (h2 p hp)
  · exact hrow _ _ hu
theorem OwnP.set {g n cap i k : Nat} {p : Vp} {c : Vc} {u : Value} (h : OwnP w B v P) (hd : Dis P) (hi : P[i]? = some p) (hp : p.1 = .slice (some ⟨g, 0, none⟩) n cap) (hk : p.2.2[k]? = some c) (hu : OwnR w 0 u c.2.1) : OwnP (w.setCell ⟨g, k * 2, none⟩ u) B v (P.set i (p.1, p.2.1, p.2.2.set k (u, c.2))) := by
  have hpm := List.mem_of_getElem? hi
  have hil : i < P.length := (List.getElem?_eq_some_iff.1 hi).1
  have hg : g ∈ ob p.1 := by rw [hp]; simp [ob, Value.ownBlock]
  obtain ⟨cs, cn, hc⟩ := own_kind (h.2 p hpm).1 hg
  have hF : Fr [g] w (w.setCell ⟨g, k * 2, none⟩ u) := (Fr.refl [g] w).setCell ⟨g, k * 2, none⟩ u (.inl (by simp))
  refine ⟨?_, fun q hq => ?_⟩
  · have h1 := own_away h.1 hF fun b hb => by
      rw [List.mem_singleton] at hb
      subst hb
      exact own_far (h.2 p hpm).1 h.1 (by decide) b hg
    have e : pt (P.set i (p.1, p.2.1, p.2.2.set k (u, c.2))) = pt P := by
      rw [pt, pt, List.flatMap_def, List.flatMap_def, List.map_set]
      congr 1
      apply List.ext_getElem?
      intro j
      rw [List.getElem?_set]
      by_cases hj : i = j
      · subst hj
        rw [if_pos rfl, List.length_map, if_pos hil, List.getElem?_map, hi]
        rfl
      · rw [if_neg hj]
    rw [List.length_set, e]
    exact h1
  · obtain ⟨j, hj⟩ := List.getElem?_of_mem hq
    rw [List.getElem?_set] at hj
    by_cases hij : i = j
    · subst hij
      rw [if_pos rfl, if_pos hil] at hj
      obtain rfl := Option.some.inj hj
      have := h.2 p hpm
      simp only
      rw [hp] at this ⊢
      exact this.set hk hu
    · rw [if_neg hij] at hj
      have hqm := List.mem_of_getElem? hj
      have hne : g ∉ ob q.1 := by
        unfold Dis at hd
        rw [List.pairwise_iff_getElem] at hd
        have hjl : j < P.length := (List.getElem?_eq_some_iff.1 hj).1
        have e1 : P[i] = p := by rw [List.getElem?_eq_getElem hil] at hi; exact Option.some.inj hi
        have e2 : P[j] = q := by rw [List.getElem?_eq_getElem hjl] at hj; exact Option.some.inj hj
        rcases Nat.lt_or_gt_of_ne hij with hlt | hlt
        · have := hd i j hil hjl hlt
          rw [e1, e2] at this
          exact this g hg
        · have := hd j i hjl hil hlt
          rw [e1, e2] at this
          exact fun h => this g h hg
      exact (h.2 q hqm).away hF fun b hb => by
        rw [List.mem_singleton] at hb
        subst hb
        exact ⟨hne, copy_no_value hc⟩
end
theorem pts_set {P : List Vp} {i k : Nat} {p : Vp} {c : Vc} (hi : P[i]? = some p) (hk : p.2.2[k]? = some c) (u : Value) : pts (P.set i (p.1, p.2.1, p.2.2.set k (u, c.2))) = pts P ∧ (P.set i (p.1, p.2.1, p.2.2.set k (u, c.2))).map Prod.fst = P.map Prod.fst := by
  have hil : i < P.length := (List.getElem?_eq_some_iff.1 hi).1
  constructor
  all_goals
    apply List.ext_getElem?
    intro j
    rw [List.getElem?_map, List.getElem?_map, List.getElem?_set]
    by_cases hj : i = j
    · subst hj
      rw [if_pos rfl, if_pos hil, hi]
      simp [cps_set hk u]
    · rw [if_neg hj]
theorem Dis.same {P Q : List Vp} (h : Dis P) (e : Q.map Prod.fst = P.map Prod.fst) : Dis Q := by
  unfold Dis at h ⊢
  have h1 : (P.map Prod.fst).Pairwise fun a b => ∀ x ∈ ob a, x ∉ ob b := by rw [List.pairwise_map]; exact h
  rw [← e, List.pairwise_map] at h1
  exact h1
end Go.Proofs.YtljkneajdndgjaaGreat
