/-
  A helper of ours: no claim of its own. Layer 27 (snap): windows from each tick at which a table changes up to the next one, as lists. No program in it.
-/
import Derived.Test.YtljkneajdndgjaaGreatEdgEg
import Derived.Test.YtljkneajdndgjaaGreatEdgEa
import Derived.Test.YtljkneajdndgjaaGreatEdgEr
set_option linter.unusedVariables false
set_option linter.unusedSimpArgs false
namespace Go.Proofs.YtljkneajdndgjaaGreat
open Go.RowKit
attribute [local go_sem] GW.cell GW.frozen In.eq_true In.le_true In.ne In.ne' In.ne_add In.ne_add' In.lt_add Upto.le_true Upto.le_add Upto.lt_add
/-- What is made of each row's jumps, of edges in form. -/
def mpE (op : List Jp → Int × List Jp) (l : List Ed) : Int := if mayE l then eachE op (grp l) else 2
def mpR (op : List Jp → Int × List Jp) (l : List Ed) : List Ed := if mayE l then eachR op (grp l) else []
theorem grp_r8 {l : List Ed} (h : mayE l = true) : ∀ g ∈ grp l, g.1.length ≤ 8 := fun g hg => by
  obtain ⟨k1, k2, k3⟩ := grp_rows (mayE_rise h)
  obtain ⟨e, he, hee⟩ := (k2 g.1).1 (List.mem_map.2 ⟨g, hg, rfl⟩)
  rw [← hee]
  exact mayR_len ((mayE_rise h).1 e he)
set_option maxHeartbeats 4000000 in
set_option maxRecDepth 100000 in
theorem edgeAhead_c (L : List Ve) (t : Int) (v : Value) (w : World) (hl : Ew w [] v L) : Calls Tryz.prog 19 #[v, .int .i64 t] w fun e w' => ∃ v' N, e = .returned (.tuple #[v', .int .i64 (mpE (ahOp t) (eds L))]) ∧ eds N = mpR (ahOp t) (eds L) ∧ OwnEr w' w.heap.size v' N ∧ Ext w w' := by
  have h1 := hide (fun w' (hX : Ext w w') => edgeMay_c L v w' (hl.ext hX))
  have hX0 := hide ((Ext.refl w).alloc (.cells #[.int .i64 t] 3))
  have hl' := hide hl
  obtain ⟨A, cap, rfl, hlc, hlm, -⟩ := ew_form hl
  obtain ⟨E, hE⟩ : ∃ E, E = mpE (ahOp t) (eds L) := ⟨_, rfl⟩
  obtain ⟨R, hR⟩ : ∃ R, R = mpR (ahOp t) (eds L) := ⟨_, rfl⟩
  rw [← hE, ← hR]
  unfold mpE at hE
  unfold mpR at hR
  clear hl
  cases ha : mayE (eds L)
  · rw [ha, if_neg (by decide)] at hE hR
    rw [ha] at h1
    subst hE
    replace hR := hide hR
    go_enter Tryz.func19, Tryz.ntmps19
    go_wp2_with (go_at_call 45; (with_reducible refine seq_gw (h1.out _ hX0.out) ?_); intro g)
    go_returns
    exact ⟨_, [], rfl, by rw [hR.out]; rfl, OwnEr.nil _ _, hX0.out.trans g.grown⟩
  · rw [ha, if_pos rfl] at hE hR
    rw [ha] at h1
    have hll : L.length ≤ 8192 := by have := mayE_len ha; simp [eds] at this; omega
    have hg8 := hide (grp_r8 ha)
    replace hE := hide hE
    replace hR := hide hR
    have hbx := hide (Ob.new w 3 [.int .i64 t])
    clear ha
    go_enter Tryz.func19, Tryz.ntmps19
    go_wp2_with (first | (go_at_call 45; (with_reducible refine seq_gw (h1.out _ hX0.out) ?_); intro g) | (go_at_call 46; refine (eachAhead_c L _ _ (hl'.out.ext (hX0.out.trans g.grown)) hll t _ (hbx.out.ext g.grown) hg8.out).mono ?_; rintro ee w3 ⟨v3, N, rfl, hN, ho3, hX3⟩))
    go_returns
    exact ⟨_, N, by rw [hE.out]; rfl, by rw [hN, hR.out], ho3.lower (hX0.out.trans g.grown).size, (hX0.out.trans g.grown).trans hX3⟩
set_option maxHeartbeats 4000000 in
set_option maxRecDepth 100000 in
theorem edgeRest_c (L : List Ve) (t : Int) (v : Value) (w : World) (hl : Ew w [] v L) : Calls Tryz.prog 22 #[v, .int .i64 t] w fun e w' => ∃ v' N, e = .returned (.tuple #[v', .int .i64 (mpE (reOp t) (eds L))]) ∧ eds N = mpR (reOp t) (eds L) ∧ OwnEr w' w.heap.size v' N ∧ Ext w w' := by
  have h1 := hide (fun w' (hX : Ext w w') => edgeMay_c L v w' (hl.ext hX))
  have hX0 := hide ((Ext.refl w).alloc (.cells #[.int .i64 t] 3))
  have hl' := hide hl
  obtain ⟨A, cap, rfl, hlc, hlm, -⟩ := ew_form hl
  obtain ⟨E, hE⟩ : ∃ E, E = mpE (reOp t) (eds L) := ⟨_, rfl⟩
  obtain ⟨R, hR⟩ : ∃ R, R = mpR (reOp t) (eds L) := ⟨_, rfl⟩
  rw [← hE, ← hR]
  unfold mpE at hE
  unfold mpR at hR
  clear hl
  cases ha : mayE (eds L)
  · rw [ha, if_neg (by decide)] at hE hR
    rw [ha] at h1
    subst hE
    replace hR := hide hR
    go_enter Tryz.func22, Tryz.ntmps22
    go_wp2_with (go_at_call 45; (with_reducible refine seq_gw (h1.out _ hX0.out) ?_); intro g)
    go_returns
    exact ⟨_, [], rfl, by rw [hR.out]; rfl, OwnEr.nil _ _, hX0.out.trans g.grown⟩
  · rw [ha, if_pos rfl] at hE hR
    rw [ha] at h1
    have hll : L.length ≤ 8192 := by have := mayE_len ha; simp [eds] at this; omega
    have hg8 := hide (grp_r8 ha)
    replace hE := hide hE
    replace hR := hide hR
    have hbx := hide (Ob.new w 3 [.int .i64 t])
    clear ha
    go_enter Tryz.func22, Tryz.ntmps22
    go_wp2_with (first | (go_at_call 45; (with_reducible refine seq_gw (h1.out _ hX0.out) ?_); intro g) | (go_at_call 46; refine (eachRest_c L _ _ (hl'.out.ext (hX0.out.trans g.grown)) hll t _ (hbx.out.ext g.grown) hg8.out).mono ?_; rintro ee w3 ⟨v3, N, rfl, hN, ho3, hX3⟩))
    go_returns
    exact ⟨_, N, by rw [hE.out]; rfl, by rw [hN, hR.out], ho3.lower (hX0.out.trans g.grown).size, (hX0.out.trans g.grown).trans hX3⟩
end Go.Proofs.YtljkneajdndgjaaGreat
set_option linter.unusedVariables false
set_option linter.unusedSimpArgs false
namespace Go.Proofs.YtljkneajdndgjaaGreat
open Go.RowKit
theorem grp_back : ∀ l : List Ed, evL (fun f => (0, f)) (grp l) = l
  | [] => rfl
  | e :: r => by
    have ih := grp_back r
    unfold grp
    cases h : grp r with
    | nil =>
      rw [h] at ih
      have hr : r = [] := by rw [← ih]; rfl
      subst hr
      rfl
    | cons g t =>
      obtain ⟨q, f⟩ := g
      rw [h] at ih
      simp only [evL, List.flatMap_cons] at ih ⊢
      by_cases hq : q = e.1
      · simp only [if_pos hq, List.flatMap_cons, List.map_cons, List.cons_append]
        rw [ih, hq]
      · simp only [if_neg hq, List.flatMap_cons, List.map_cons, List.map_nil, List.cons_append, List.nil_append]
        rw [ih]
theorem mem_rows {l : List Ed} (hv : ∀ e ∈ l, mayR e.1 = true) (r : List Vl) : r ∈ rowsL l ↔ jmps l r ≠ [] := by
  rw [(rowsL_ok hv).2 r]
  constructor
  · rintro ⟨⟨q, j⟩, he, rfl⟩ h
    have := jmps_mem.2 he
    rw [h] at this; cases this
  · intro h
    obtain ⟨j, hj⟩ := List.exists_mem_of_ne_nil _ h
    exact ⟨_, jmps_mem.1 hj, rfl⟩
theorem jmps_const (q : List Vl) (f : List Jp) (r : List Vl) : jmps (f.map fun j => (q, j)) r = if q = r then f else [] := by
  induction f with
  | nil => simp [jmps]
  | cons j f ih =>
    rw [List.map_cons, jmps_cons, ih]
    by_cases h : q = r
    · simp only [if_pos h]
    · simp only [if_neg h]
theorem jmps_rows (op : List Jp → Int × List Jp) (F : List Vl → List Jp) (r : List Vl) : ∀ rows : List (List Vl), rows.Pairwise rlt → jmps (evL op (rows.map fun q => (q, F q))) r = if hasR rows r then (op (F r)).2 else []
  | [], _ => rfl
  | q :: rows, h => by
    have h' := List.pairwise_cons.1 h
    have ih := jmps_rows op F r rows h'.2
    have e : evL op ((q :: rows).map fun q => (q, F q)) = ((op (F q)).2.map fun j => (q, j)) ++ evL op (rows.map fun q => (q, F q)) := by simp [evL]
    rw [e, jmps_append, jmps_const, ih]
    by_cases hq : q = r
    · subst hq
      have hno : hasR rows q = false := by
        rw [← Bool.not_eq_true, hasR_iff]
        exact fun hm => rlt_irr q (h'.1 q hm)
      have hyes : hasR (q :: rows) q = true := hasR_iff.2 (by simp)
      rw [hno, hyes]; simp
    · have e2 : hasR (q :: rows) r = hasR rows r := by simp [hasR, hq]
      rw [if_neg hq, e2, List.nil_append]
/-- The jumps of each row, of what is made row by row. -/
theorem jmps_each {op : List Jp → Int × List Jp} (h0 : (op []).2 = []) {l : List Ed} (hv : ∀ e ∈ l, mayR e.1 = true) (r : List Vl) : jmps (evL op (byRows l)) r = (op (jmps l r)).2 := by
  unfold byRows
  rw [jmps_rows op (fun q => jmps l q) r _ (rowsL_ok hv).1]
  by_cases h : hasR (rowsL l) r = true
  · rw [if_pos h]
  · rw [if_neg h]
    have : jmps l r = [] := by
      rw [hasR_iff, mem_rows hv] at h
      exact Decidable.not_not.1 h
    rw [this, h0]
theorem evE_all {op : List Jp → Int × List Jp} : ∀ {G : List Gp}, evE op G = 0 → ∀ g ∈ G, (op g.2).1 = 0
  | [], _, g, hg => by cases hg
  | x :: t, h, g, hg => by
    rw [evE] at h
    by_cases hx : (op x.2).1 = 0
    · rw [if_pos hx] at h
      rcases List.mem_cons.1 hg with rfl | hg
      · exact hx
      · exact evE_all h g hg
    · rw [if_neg hx] at h; exact absurd h hx
theorem each_zero {op : List Jp → Int × List Jp} {G : List Gp} (h : eachE op G = 0) : evE op G = 0 ∧ (evL op G).length ≤ 4096 ∧ eachR op G = evL op G := by
  have h' := h
  unfold eachE at h
  split at h
  · rename_i he
    split at h
    · cases h
    · rename_i hl
      exact ⟨he, by omega, by unfold eachR; rw [if_pos h']⟩
  · rename_i he; exact absurd h he
theorem op_rows {op : List Jp → Int × List Jp} (h0 : (op []).1 = 0) {l : List Ed} (hv : ∀ e ∈ l, mayR e.1 = true) (h : evE op (byRows l) = 0) (r : List Vl) : (op (jmps l r)).1 = 0 := by
  by_cases hr : r ∈ rowsL l
  · exact evE_all h (r, jmps l r) (List.mem_map.2 ⟨r, hr, rfl⟩)
  · rw [mem_rows hv] at hr
    rw [Decidable.not_not.1 hr, h0]
/-- What is made row by row has its rows in order. -/
theorem rise_rows (op : List Jp → Int × List Jp) (F : List Vl → List Jp) : ∀ rows : List (List Vl), rows.Pairwise rlt → (∀ r ∈ rows, mayR r = true) → Rise (evL op (rows.map fun q => (q, F q)))
  | [], _, _ => ⟨by simp [evL], List.Pairwise.nil⟩
  | q :: rows, h, hv => by
    have h' := List.pairwise_cons.1 h
    obtain ⟨i1, i2⟩ := rise_rows op F rows h'.2 fun r hr => hv r (by simp [hr])
    have e : evL op ((q :: rows).map fun q => (q, F q)) = ((op (F q)).2.map fun j => (q, j)) ++ evL op (rows.map fun q => (q, F q)) := by simp [evL]
    rw [e]
    have hq := hv q (by simp)
    refine ⟨fun x hx => ?_, ?_⟩
    · rcases List.mem_append.1 hx with hx | hx
      · obtain ⟨j, -, rfl⟩ := List.mem_map.1 hx; exact hq
      · exact i1 x hx
    · rw [List.pairwise_append]
      refine ⟨?_, i2, fun x hx y hy => ?_⟩
      · rw [List.pairwise_map]
        refine List.Pairwise.imp (R := fun _ _ => True) (fun _ => by rw [cmpT_self hq]; exact Int.le_refl 0) ?_
        exact List.pairwise_of_forall (fun _ _ => trivial)
      · obtain ⟨j, -, rfl⟩ := List.mem_map.1 hx
        simp only [evL, List.mem_flatMap, List.mem_map] at hy
        obtain ⟨g, ⟨r, hr, rfl⟩, j', -, rfl⟩ := hy
        have := (h'.1 r hr).2
        simp only
        omega
theorem rise_each (op : List Jp → Int × List Jp) {l : List Ed} (hv : ∀ e ∈ l, mayR e.1 = true) : Rise (evL op (byRows l)) :=
  rise_rows op _ _ (rowsL_ok hv).1 fun r hr => by obtain ⟨e, he, rfl⟩ := ((rowsL_ok hv).2 r).1 hr; exact hv e he
/-- What is made row by row is in form. -/
theorem may_each {op : List Jp → Int × List Jp} (h0 : (op []).2 = []) {l : List Ed} (hv : ∀ e ∈ l, mayR e.1 = true) (hl : (evL op (byRows l)).length ≤ 4096) (hj : ∀ r, mayJ (op (jmps l r)).2 = true) : mayE (evL op (byRows l)) = true := by
  have hr := rise_each op hv
  rw [mayE_iff]
  refine ⟨hl, hr, fun g hg => ?_⟩
  rw [((grp_rows hr).2.2 g hg).1, jmps_each h0 hv]
  exact hj g.1
theorem tell_zero (v : Int → Int) (h : ∀ p, v p = 0) : ∀ ps : List Int, tell v ps 0 = []
  | [] => rfl
  | p :: r => by rw [tell, if_pos (h p), h p]; exact tell_zero v h r
theorem ahOp_nil (t : Int) : ahOp t [] = (0, []) := by
  have e : ahL [] t = [] := tell_zero _ (fun p => by unfold ahV; split <;> rfl) _
  have e1 : ahE [] t = 0 := ahE_zero.2 ⟨mayJ_nil, by rw [e]; exact mayJ_nil⟩
  unfold ahOp ahR
  rw [e1, if_pos rfl, e]
theorem reOp_nil (t : Int) : reOp t [] = (0, []) := by
  have e : reL [] t = [] := by
    unfold reL
    split
    · rfl
    · exact tell_zero _ (fun p => rfl) _
  have e1 : reE [] t = 0 := reE_zero.2 ⟨mayJ_nil, by rw [e]; exact mayJ_nil⟩
  unfold reOp reR
  rw [e1, if_pos rfl, e]
theorem mp_zero {op : List Jp → Int × List Jp} {l : List Ed} (h : mpE op l = 0) : mayE l = true ∧ evE op (byRows l) = 0 ∧ mpR op l = evL op (byRows l) := by
  unfold mpE at h
  by_cases hm : mayE l = true
  · rw [if_pos hm] at h
    obtain ⟨h1, -, h3⟩ := each_zero h
    rw [grp_eq (mayE_rise hm)] at h1 h3
    exact ⟨hm, h1, by unfold mpR; rw [if_pos hm, grp_eq (mayE_rise hm), h3]⟩
  · rw [if_neg hm] at h; cases h
end Go.Proofs.YtljkneajdndgjaaGreat
set_option linter.unusedVariables false
set_option linter.unusedSimpArgs false
namespace Go.Proofs.YtljkneajdndgjaaGreat
open Go.RowKit
/-- A copy: a row, how often. A part: from, to; its rows. -/
abbrev Cp := List Vl × Int
abbrev Pt := (Int × Int) × List Cp
/-- The rows of a table that are there at a tick. -/
def alG (G : List Gp) (t : Int) : List Cp := (G.filter fun g => decide (0 < atV g.2 t)).map fun g => (g.1, atV g.2 t)
theorem alG_snoc (G : List Gp) (g : Gp) (t : Int) : alG (G ++ [g]) t = alG G t ++ (if 0 < atV g.2 t then [(g.1, atV g.2 t)] else []) := by
  unfold alG
  rw [List.filter_append, List.map_append]
  congr 1
  by_cases h : 0 < atV g.2 t
  · rw [if_pos h, List.filter_cons_of_pos (by simpa using h)]; rfl
  · rw [if_neg h, List.filter_cons_of_neg (by simpa using h)]; rfl
theorem alG_next {G : List Gp} {k : Nat} {g : Gp} (h : G[k]? = some g) (t : Int) : alG (G.take (k + 1)) t = alG (G.take k) t ++ (if 0 < atV g.2 t then [(g.1, atV g.2 t)] else []) := by
  rw [List.take_add_one, h]; exact alG_snoc _ _ _
theorem alG_len (G : List Gp) (t : Int) : (alG G t).length ≤ G.length := by
  unfold alG
  rw [List.length_map]
  exact List.length_filter_le _ _
/-- Where something changes above a tick, and the tick. -/
def cutP (l : List Ed) (f : Int) : List Int := plc [f] ((l.map Prod.snd).filter fun j => decide (f < j.1))
theorem cutP_nil (f : Int) : cutP [] f = [f] := rfl
theorem cutP_snoc (l : List Ed) (e : Ed) (f : Int) : cutP (l ++ [e]) f = if f < e.2.1 then ins (cutP l f) e.2.1 else cutP l f := by
  unfold cutP
  rw [List.map_append, List.filter_append]
  by_cases h : f < e.2.1
  · rw [if_pos h, List.map_cons, List.filter_cons_of_pos (by simpa using h)]
    exact plc_snoc _ _ _
  · rw [if_neg h, List.map_cons, List.filter_cons_of_neg (by simpa using h)]
    simp
theorem cutP_next {l : List Ed} {k : Nat} {e : Ed} (h : l[k]? = some e) (f : Int) : cutP (l.take (k + 1)) f = if f < e.2.1 then ins (cutP (l.take k) f) e.2.1 else cutP (l.take k) f := by
  rw [List.take_add_one, h]; exact cutP_snoc _ _ _
theorem cutP_asc (l : List Ed) (f : Int) : (cutP l f).Pairwise (· < ·) := plc_asc _ _ (by simp)
theorem cutP_mem (l : List Ed) (f x : Int) : x ∈ cutP l f ↔ x = f ∨ (f < x ∧ ∃ e ∈ l, e.2.1 = x) := by
  unfold cutP
  rw [plc_mem, List.mem_singleton]
  constructor
  · rintro (rfl | ⟨j, hj, rfl⟩)
    · exact .inl rfl
    · rw [List.mem_filter, List.mem_map, decide_eq_true_iff] at hj
      obtain ⟨⟨e, he, rfl⟩, hf⟩ := hj
      exact .inr ⟨hf, e, he, rfl⟩
  · rintro (rfl | ⟨hf, e, he, rfl⟩)
    · exact .inl rfl
    · exact .inr ⟨e.2, by rw [List.mem_filter, List.mem_map, decide_eq_true_iff]; exact ⟨⟨e, he, rfl⟩, hf⟩, rfl⟩
theorem cutP_len (l : List Ed) (f : Int) : (cutP l f).length ≤ l.length + 1 := by
  unfold cutP
  have h1 := plc_length ((l.map Prod.snd).filter fun j => decide (f < j.1)) [f] (by simp)
  have h2 := List.length_filter_le (fun j : Jp => decide (f < j.1)) (l.map Prod.snd)
  rw [List.length_map] at h2
  simp only [List.length_cons, List.length_nil] at h1
  omega
/-- The same places, rising, are the cuts. -/
theorem cut_of {l : List Ed} {f : Int} {D : List Int} (h1 : D.Pairwise (· < ·)) (h2 : ∀ x, x ∈ D ↔ x ∈ cutP l f) : D = cutP l f :=
  asc_unique (R := (· < ·)) (fun a => Int.lt_irrefl a) (fun a b h k => by omega) _ _ h1 (cutP_asc l f) h2
/-- From each cut up to the next one. -/
def spC : List Int → List (Int × Int)
  | [] => []
  | t :: r => (t, r.headD 1125899906842624) :: spC r
theorem spC_len : ∀ c : List Int, (spC c).length = c.length
  | [] => rfl
  | t :: r => by rw [spC, List.length_cons, List.length_cons, spC_len r]
theorem spC_at : ∀ (c : List Int) (i : Nat) (t : Int), c[i]? = some t → (spC c)[i]? = some (t, (c[i + 1]?).getD 1125899906842624)
  | a :: r, 0, t, h => by
    simp at h
    subst h
    cases r <;> simp [spC]
  | a :: r, i + 1, t, h => by
    have := spC_at r i t (by simpa using h)
    simpa [spC] using this
/-- The parts that have rows. -/
def paG (G : List Gp) (ps : List (Int × Int)) : List Pt := (ps.filter fun p => !(alG G p.1).isEmpty).map fun p => (p, alG G p.1)
theorem paG_snoc (G : List Gp) (ps : List (Int × Int)) (p : Int × Int) : paG G (ps ++ [p]) = paG G ps ++ (if alG G p.1 = [] then [] else [(p, alG G p.1)]) := by
  unfold paG
  rw [List.filter_append, List.map_append]
  congr 1
  by_cases h : alG G p.1 = []
  · rw [if_pos h, List.filter_cons_of_neg (by simp [h])]; rfl
  · rw [if_neg h, List.filter_cons_of_pos (by simp [h])]; rfl
theorem paG_next {G : List Gp} {ps : List (Int × Int)} {k : Nat} {p : Int × Int} (h : ps[k]? = some p) : paG G (ps.take (k + 1)) = paG G (ps.take k) ++ (if alG G p.1 = [] then [] else [(p, alG G p.1)]) := by
  rw [List.take_add_one, h]; exact paG_snoc _ _ _
theorem paG_pre (G : List Gp) (ps : List (Int × Int)) (k : Nat) : (paG G (ps.take k)).length ≤ (paG G ps).length := by
  conv => rhs; rw [← List.take_append_drop k ps]
  unfold paG
  rw [List.filter_append, List.map_append, List.length_append]
  omega
/-- A tick. -/
def stick (n : Int) : Bool := decide (0 ≤ n) && decide (n ≤ 1125899906842624)
theorem stick_iff {n : Int} : stick n = true ↔ 0 ≤ n ∧ n ≤ 1125899906842624 := by unfold stick; simp
/-- What is told: what is wrong, and the cuts, or the parts. -/
def cuE (l : List Ed) (f : Int) : Int := if mayE l = true then (if tabE l = true then (if stick f = true then 0 else 13) else 20) else 2
def cuL (l : List Ed) (f : Int) : List Int := if cuE l f = 0 then (if f = 1125899906842624 then [] else cutP l f) else []
def snT (l : List Ed) (f : Int) : List Pt := paG (grp l) (spC (cuL l f))
def snE (l : List Ed) (f : Int) : Int := if cuE l f = 0 then (if 1024 < (snT l f).length then 7 else 0) else cuE l f
def snL (l : List Ed) (f : Int) : List Pt := if snE l f = 0 then snT l f else []
theorem cuE_zero {l : List Ed} {f : Int} : cuE l f = 0 ↔ mayE l = true ∧ tabE l = true ∧ stick f = true := by
  unfold cuE
  cases mayE l <;> cases tabE l <;> cases stick f <;> simp
theorem cuL_len (l : List Ed) (f : Int) : (cuL l f).length ≤ l.length + 1 := by
  unfold cuL
  split
  · split
    · simp
    · exact cutP_len l f
  · simp
end Go.Proofs.YtljkneajdndgjaaGreat
