/-
  A helper of ours: no claim of its own. Layer 10 (edge): edges told by the jumps of each row; what is made of each row's jumps; two sides; what is added and taken away. No walk in it.
-/
import Derived.Test.YtljkneajdndgjabGreatEdgEg
import Derived.Test.YtljkneajdndgjabGreatStepA
import Derived.Test.YtljkneajdndgjabGreatStepR
import Derived.Test.YtljkneajdndgjabGreatEdgEa
set_option linter.unusedVariables false
set_option linter.unusedSimpArgs false
namespace Go.Proofs.YtljkneajdndgjabGreat
open Go.RowKit
attribute [local go_sem] GW.cell GW.frozen In.eq_true In.le_true In.ne In.ne' In.ne_add In.ne_add' In.lt_add Upto.le_true Upto.le_add Upto.lt_add Oper.semAt_some wide_depth wide_fn
end Go.Proofs.YtljkneajdndgjabGreat
set_option linter.unusedVariables false
set_option linter.unusedSimpArgs false
namespace Go.Proofs.YtljkneajdndgjabGreat
open Go.RowKit
attribute [local go_sem] GW.cell GW.frozen In.eq_true In.le_true In.ne In.ne' In.ne_add In.ne_add' In.lt_add Upto.le_true Upto.le_add Upto.lt_add
/-- What is made of each row's jumps, of edges in form. -/
def mpE (op : List Jp → Int × List Jp) (l : List Ed) : Int := if mayE l then eachE op (grp l) else 2
def mpR (op : List Jp → Int × List Jp) (l : List Ed) : List Ed := if mayE l then eachR op (grp l) else []
theorem grp_r8 {l : List Ed} (h : mayE l = true) : ∀ g ∈ grp l, g.1.length ≤ 8 := fun g hg => by
  obtain ⟨k1, k2, k3⟩ := grp_rows (mayE_rise h)
  obtain ⟨e, he, hee⟩ := (k2 g.1).1 (List.mem_map.2 ⟨g, hg, rfl⟩)
  rw [← hee]
  exact mayR_len ((mayE_rise h).1 e he)
set_option maxHeartbeats 4000000 in
set_option maxRecDepth 100000 in
theorem edgeAhead_c (L : List Ve) (t : Int) (v : Value) (w : World) (hl : Ew w [] v L) : Calls Tryz.prog 22 #[v, .int .i64 t] w fun e w' => ∃ v' N, e = .returned (.tuple #[v', .int .i64 (mpE (ahOp t) (eds L))]) ∧ eds N = mpR (ahOp t) (eds L) ∧ OwnEr w' w.heap.size v' N ∧ Ext w w' := by
  have h1 := hide (fun w' (hX : Ext w w') => edgeMay_c L v w' (hl.ext hX))
  have hX0 := hide ((Ext.refl w).alloc (.cells #[.int .i64 t] 3))
  have hl' := hide hl
  obtain ⟨A, cap, rfl, hlc, hlm, -⟩ := ew_form hl
  obtain ⟨E, hE⟩ : ∃ E, E = mpE (ahOp t) (eds L) := ⟨_, rfl⟩
  obtain ⟨R, hR⟩ : ∃ R, R = mpR (ahOp t) (eds L) := ⟨_, rfl⟩
  rw [← hE, ← hR]
  unfold mpE at hE
  unfold mpR at hR
  clear hl
  cases ha : mayE (eds L)
  · rw [ha, if_neg (by decide)] at hE hR
    rw [ha] at h1
    subst hE
    replace hR := hide hR
    go_enter Tryz.func22, Tryz.ntmps22
    go_wp2_with (go_at_call 31; (with_reducible refine seq_gw (h1.out _ hX0.out) ?_); intro g)
    go_returns
    exact ⟨_, [], rfl, by rw [hR.out]; rfl, OwnEr.nil _ _, hX0.out.trans g.grown⟩
  · rw [ha, if_pos rfl] at hE hR
    rw [ha] at h1
    have hll : L.length ≤ 8192 := by have := mayE_len ha; simp [eds] at this; omega
    have hg8 := hide (grp_r8 ha)
    replace hE := hide hE
    replace hR := hide hR
    have hbx := hide (Ob.new w 3 [.int .i64 t])
    clear ha
    go_enter Tryz.func22, Tryz.ntmps22
    go_wp2_with (first | (go_at_call 31; (with_reducible refine seq_gw (h1.out _ hX0.out) ?_); intro g) | (go_at_call 50; refine (eachAhead_c L _ _ (hl'.out.ext (hX0.out.trans g.grown)) hll t _ (hbx.out.ext g.grown) hg8.out).mono ?_; rintro ee w3 ⟨v3, N, rfl, hN, ho3, hX3⟩))
    go_returns
    exact ⟨_, N, by rw [hE.out]; rfl, by rw [hN, hR.out], ho3.lower (hX0.out.trans g.grown).size, (hX0.out.trans g.grown).trans hX3⟩
end Go.Proofs.YtljkneajdndgjabGreat
set_option linter.unusedVariables false
set_option linter.unusedSimpArgs false
namespace Go.Proofs.YtljkneajdndgjabGreat
open Go.RowKit
theorem grp_back : ∀ l : List Ed, evL (fun f => (0, f)) (grp l) = l
  | [] => rfl
  | e :: r => by
    have ih := grp_back r
    unfold grp
    cases h : grp r with
    | nil =>
      rw [h] at ih
      have hr : r = [] := by rw [← ih]; rfl
      subst hr
      rfl
    | cons g t =>
      obtain ⟨q, f⟩ := g
      rw [h] at ih
      simp only [evL, List.flatMap_cons] at ih ⊢
      by_cases hq : q = e.1
      · simp only [if_pos hq, List.flatMap_cons, List.map_cons, List.cons_append]
        rw [ih, hq]
      · simp only [if_neg hq, List.flatMap_cons, List.map_cons, List.map_nil, List.cons_append, List.nil_append]
        rw [ih]
theorem mem_rows {l : List Ed} (hv : ∀ e ∈ l, mayR e.1 = true) (r : List Vl) : r ∈ rowsL l ↔ jmps l r ≠ [] := by
  rw [(rowsL_ok hv).2 r]
  constructor
  · rintro ⟨⟨q, j⟩, he, rfl⟩ h
    have := jmps_mem.2 he
    rw [h] at this; cases this
  · intro h
    obtain ⟨j, hj⟩ := List.exists_mem_of_ne_nil _ h
    exact ⟨_, jmps_mem.1 hj, rfl⟩
/-- Edges whose rows do not fall are told by the jumps of each row. -/
theorem ed_ext {a b : List Ed} (ha : Rise a) (hb : Rise b) (h : ∀ r, jmps a r = jmps b r) : a = b := by
  have hr : rowsL a = rowsL b := asc_unique rlt_irr rlt_asym _ _ (rowsL_ok ha.1).1 (rowsL_ok hb.1).1 fun r => by rw [mem_rows ha.1, mem_rows hb.1, h]
  have hf : (fun r => (r, jmps a r)) = fun r => (r, jmps b r) := funext fun r => by rw [h]
  rw [← grp_back a, ← grp_back b, grp_eq ha, grp_eq hb]
  unfold byRows
  rw [hr, hf]
theorem jmps_const (q : List Vl) (f : List Jp) (r : List Vl) : jmps (f.map fun j => (q, j)) r = if q = r then f else [] := by
  induction f with
  | nil => simp [jmps]
  | cons j f ih =>
    rw [List.map_cons, jmps_cons, ih]
    by_cases h : q = r
    · simp only [if_pos h]
    · simp only [if_neg h]
theorem jmps_rows (op : List Jp → Int × List Jp) (F : List Vl → List Jp) (r : List Vl) : ∀ rows : List (List Vl), rows.Pairwise rlt → jmps (evL op (rows.map fun q => (q, F q))) r = if hasR rows r then (op (F r)).2 else []
  | [], _ => rfl
  | q :: rows, h => by
    have h' := List.pairwise_cons.1 h
    have ih := jmps_rows op F r rows h'.2
    have e : evL op ((q :: rows).map fun q => (q, F q)) = ((op (F q)).2.map fun j => (q, j)) ++ evL op (rows.map fun q => (q, F q)) := by simp [evL]
    rw [e, jmps_append, jmps_const, ih]
    by_cases hq : q = r
    · subst hq
      have hno : hasR rows q = false := by
        rw [← Bool.not_eq_true, hasR_iff]
        exact fun hm => rlt_irr q (h'.1 q hm)
      have hyes : hasR (q :: rows) q = true := hasR_iff.2 (by simp)
      rw [hno, hyes]; simp
    · have e2 : hasR (q :: rows) r = hasR rows r := by simp [hasR, hq]
      rw [if_neg hq, e2, List.nil_append]
/-- The jumps of each row, of what is made row by row. -/
theorem jmps_each {op : List Jp → Int × List Jp} (h0 : (op []).2 = []) {l : List Ed} (hv : ∀ e ∈ l, mayR e.1 = true) (r : List Vl) : jmps (evL op (byRows l)) r = (op (jmps l r)).2 := by
  unfold byRows
  rw [jmps_rows op (fun q => jmps l q) r _ (rowsL_ok hv).1]
  by_cases h : hasR (rowsL l) r = true
  · rw [if_pos h]
  · rw [if_neg h]
    have : jmps l r = [] := by
      rw [hasR_iff, mem_rows hv] at h
      exact Decidable.not_not.1 h
    rw [this, h0]
theorem evE_all {op : List Jp → Int × List Jp} : ∀ {G : List Gp}, evE op G = 0 → ∀ g ∈ G, (op g.2).1 = 0
  | [], _, g, hg => by cases hg
  | x :: t, h, g, hg => by
    rw [evE] at h
    by_cases hx : (op x.2).1 = 0
    · rw [if_pos hx] at h
      rcases List.mem_cons.1 hg with rfl | hg
      · exact hx
      · exact evE_all h g hg
    · rw [if_neg hx] at h; exact absurd h hx
theorem each_zero {op : List Jp → Int × List Jp} {G : List Gp} (h : eachE op G = 0) : evE op G = 0 ∧ (evL op G).length ≤ 4096 ∧ eachR op G = evL op G := by
  have h' := h
  unfold eachE at h
  split at h
  · rename_i he
    split at h
    · cases h
    · rename_i hl
      exact ⟨he, by omega, by unfold eachR; rw [if_pos h']⟩
  · rename_i he; exact absurd h he
theorem op_rows {op : List Jp → Int × List Jp} (h0 : (op []).1 = 0) {l : List Ed} (hv : ∀ e ∈ l, mayR e.1 = true) (h : evE op (byRows l) = 0) (r : List Vl) : (op (jmps l r)).1 = 0 := by
  by_cases hr : r ∈ rowsL l
  · exact evE_all h (r, jmps l r) (List.mem_map.2 ⟨r, hr, rfl⟩)
  · rw [mem_rows hv] at hr
    rw [Decidable.not_not.1 hr, h0]
theorem mayJ_rows {l : List Ed} (h : mayE l = true) (r : List Vl) : mayJ (jmps l r) = true := by
  obtain ⟨-, h2, h3⟩ := mayE_iff.1 h
  by_cases hr : r ∈ rowsL l
  · exact h3 (r, jmps l r) (by rw [grp_eq h2]; exact List.mem_map.2 ⟨r, hr, rfl⟩)
  · rw [mem_rows h2.1] at hr
    rw [Decidable.not_not.1 hr]; exact mayJ_nil
/-- What is made row by row has its rows in order. -/
theorem rise_rows (op : List Jp → Int × List Jp) (F : List Vl → List Jp) : ∀ rows : List (List Vl), rows.Pairwise rlt → (∀ r ∈ rows, mayR r = true) → Rise (evL op (rows.map fun q => (q, F q)))
  | [], _, _ => ⟨by simp [evL], List.Pairwise.nil⟩
  | q :: rows, h, hv => by
    have h' := List.pairwise_cons.1 h
    obtain ⟨i1, i2⟩ := rise_rows op F rows h'.2 fun r hr => hv r (by simp [hr])
    have e : evL op ((q :: rows).map fun q => (q, F q)) = ((op (F q)).2.map fun j => (q, j)) ++ evL op (rows.map fun q => (q, F q)) := by simp [evL]
    rw [e]
    have hq := hv q (by simp)
    refine ⟨fun x hx => ?_, ?_⟩
    · rcases List.mem_append.1 hx with hx | hx
      · obtain ⟨j, -, rfl⟩ := List.mem_map.1 hx; exact hq
      · exact i1 x hx
    · rw [List.pairwise_append]
      refine ⟨?_, i2, fun x hx y hy => ?_⟩
      · rw [List.pairwise_map]
        refine List.Pairwise.imp (R := fun _ _ => True) (fun _ => by rw [cmpT_self hq]; exact Int.le_refl 0) ?_
        exact List.pairwise_of_forall (fun _ _ => trivial)
      · obtain ⟨j, -, rfl⟩ := List.mem_map.1 hx
        simp only [evL, List.mem_flatMap, List.mem_map] at hy
        obtain ⟨g, ⟨r, hr, rfl⟩, j', -, rfl⟩ := hy
        have := (h'.1 r hr).2
        simp only
        omega
theorem rise_each (op : List Jp → Int × List Jp) {l : List Ed} (hv : ∀ e ∈ l, mayR e.1 = true) : Rise (evL op (byRows l)) :=
  rise_rows op _ _ (rowsL_ok hv).1 fun r hr => by obtain ⟨e, he, rfl⟩ := ((rowsL_ok hv).2 r).1 hr; exact hv e he
theorem tell_zero (v : Int → Int) (h : ∀ p, v p = 0) : ∀ ps : List Int, tell v ps 0 = []
  | [] => rfl
  | p :: r => by rw [tell, if_pos (h p), h p]; exact tell_zero v h r
theorem ahOp_nil (t : Int) : ahOp t [] = (0, []) := by
  have e : ahL [] t = [] := tell_zero _ (fun p => by unfold ahV; split <;> rfl) _
  have e1 : ahE [] t = 0 := ahE_zero.2 ⟨mayJ_nil, by rw [e]; exact mayJ_nil⟩
  unfold ahOp ahR
  rw [e1, if_pos rfl, e]
theorem mp_zero {op : List Jp → Int × List Jp} {l : List Ed} (h : mpE op l = 0) : mayE l = true ∧ evE op (byRows l) = 0 ∧ mpR op l = evL op (byRows l) := by
  unfold mpE at h
  by_cases hm : mayE l = true
  · rw [if_pos hm] at h
    obtain ⟨h1, -, h3⟩ := each_zero h
    rw [grp_eq (mayE_rise hm)] at h1 h3
    exact ⟨hm, h1, by unfold mpR; rw [if_pos hm, grp_eq (mayE_rise hm), h3]⟩
  · rw [if_neg hm] at h; cases h
theorem ne_ok {l : List Ed} (h : ∀ e ∈ l, badE e = false ∧ nowJ e.2 = false) : neE l = eachE nmOp (byRows l) := by
  unfold neE
  have h1 : l.any badE = false := List.any_eq_false.2 fun e he => by rw [(h e he).1]; decide
  have h2 : (l.any fun e => nowJ e.2) = false := List.any_eq_false.2 fun e he => by rw [(h e he).2]; decide
  rw [h1, h2, if_neg (by decide), if_neg (by decide)]
theorem nm_canon (l : List Jp) : Canon (nmL l) := tell_canon _ _ _ (plc_asc _ _ Asc.nil')
end Go.Proofs.YtljkneajdndgjabGreat
