/-
  A helper of ours: no claim of its own. Layer 28 (hop): windows and their rows as lists; a map of copies in memory.
-/
import Derived.Test.YtljkneajdndgjaaEdgEg
import Derived.Test.YtljkneajdndgjaaEdgEa
import Derived.Test.YtljkneajdndgjaaEdgEr
import Derived.Test.YtljkneajdndgjaaIdx
import Derived.Test.YtljkneajdndgjaaEdgFx
import Derived.Maps.RangeWalk
import Derived.Maps.OwnSet
import Derived.Test.YtljkneajdndgjaaRx
import Derived.Sort.LoopGhostIn
import Derived.Test.YtljkneajdndgjaaHopH
set_option linter.unusedVariables false
set_option linter.unusedSimpArgs false
namespace Go.Proofs.Ytljkneajdndgjaa
open Go.RowKit
attribute [local go_sem] GW.cell GW.frozen In.eq_true In.le_true In.ne In.ne' In.ne_add In.ne_add' In.lt_add Upto.le_true Upto.le_add Upto.lt_add
/-- What is made of each row's jumps, of edges in form. -/
def mpE (op : List Jp → Int × List Jp) (l : List Ed) : Int := if mayE l then eachE op (grp l) else 2
def mpR (op : List Jp → Int × List Jp) (l : List Ed) : List Ed := if mayE l then eachR op (grp l) else []
theorem grp_r8 {l : List Ed} (h : mayE l = true) : ∀ g ∈ grp l, g.1.length ≤ 8 := fun g hg => by
  obtain ⟨k1, k2, k3⟩ := grp_rows (mayE_rise h)
  obtain ⟨e, he, hee⟩ := (k2 g.1).1 (List.mem_map.2 ⟨g, hg, rfl⟩)
  rw [← hee]
  exact mayR_len ((mayE_rise h).1 e he)
set_option maxHeartbeats 4000000 in
set_option maxRecDepth 100000 in
theorem edgeAhead_c (L : List Ve) (t : Int) (v : Value) (w : World) (hl : Ew w [] v L) : Calls Try.prog 16 #[v, .int .i64 t] w fun e w' => ∃ v' N, e = .returned (.tuple #[v', .int .i64 (mpE (ahOp t) (eds L))]) ∧ eds N = mpR (ahOp t) (eds L) ∧ OwnEr w' w.heap.size v' N ∧ Ext w w' := by
  have h1 := hide (fun w' (hX : Ext w w') => edgeMay_c L v w' (hl.ext hX))
  have hX0 := hide ((Ext.refl w).alloc (.cells #[.int .i64 t] 3))
  have hl' := hide hl
  obtain ⟨A, cap, rfl, hlc, hlm, -⟩ := ew_form hl
  obtain ⟨E, hE⟩ : ∃ E, E = mpE (ahOp t) (eds L) := ⟨_, rfl⟩
  obtain ⟨R, hR⟩ : ∃ R, R = mpR (ahOp t) (eds L) := ⟨_, rfl⟩
  rw [← hE, ← hR]
  unfold mpE at hE
  unfold mpR at hR
  clear hl
  cases ha : mayE (eds L)
  · rw [ha, if_neg (by decide)] at hE hR
    rw [ha] at h1
    subst hE
    replace hR := hide hR
    go_enter Try.func16, Try.ntmps16
    go_wp2_with (go_at_call 20; (with_reducible refine seq_gw (h1.out _ hX0.out) ?_); intro g)
    go_returns
    exact ⟨_, [], rfl, by rw [hR.out]; rfl, OwnEr.nil _ _, hX0.out.trans g.grown⟩
  · rw [ha, if_pos rfl] at hE hR
    rw [ha] at h1
    have hll : L.length ≤ 8192 := by have := mayE_len ha; simp [eds] at this; omega
    have hg8 := hide (grp_r8 ha)
    replace hE := hide hE
    replace hR := hide hR
    have hbx := hide (Ob.new w 3 [.int .i64 t])
    clear ha
    go_enter Try.func16, Try.ntmps16
    go_wp2_with (first | (go_at_call 20; (with_reducible refine seq_gw (h1.out _ hX0.out) ?_); intro g) | (go_at_call 37; refine (eachAhead_c L _ _ (hl'.out.ext (hX0.out.trans g.grown)) hll t _ (hbx.out.ext g.grown) hg8.out).mono ?_; rintro ee w3 ⟨v3, N, rfl, hN, ho3, hX3⟩))
    go_returns
    exact ⟨_, N, by rw [hE.out]; rfl, by rw [hN, hR.out], ho3.lower (hX0.out.trans g.grown).size, (hX0.out.trans g.grown).trans hX3⟩
set_option maxHeartbeats 4000000 in
set_option maxRecDepth 100000 in
theorem edgeRest_c (L : List Ve) (t : Int) (v : Value) (w : World) (hl : Ew w [] v L) : Calls Try.prog 19 #[v, .int .i64 t] w fun e w' => ∃ v' N, e = .returned (.tuple #[v', .int .i64 (mpE (reOp t) (eds L))]) ∧ eds N = mpR (reOp t) (eds L) ∧ OwnEr w' w.heap.size v' N ∧ Ext w w' := by
  have h1 := hide (fun w' (hX : Ext w w') => edgeMay_c L v w' (hl.ext hX))
  have hX0 := hide ((Ext.refl w).alloc (.cells #[.int .i64 t] 3))
  have hl' := hide hl
  obtain ⟨A, cap, rfl, hlc, hlm, -⟩ := ew_form hl
  obtain ⟨E, hE⟩ : ∃ E, E = mpE (reOp t) (eds L) := ⟨_, rfl⟩
  obtain ⟨R, hR⟩ : ∃ R, R = mpR (reOp t) (eds L) := ⟨_, rfl⟩
  rw [← hE, ← hR]
  unfold mpE at hE
  unfold mpR at hR
  clear hl
  cases ha : mayE (eds L)
  · rw [ha, if_neg (by decide)] at hE hR
    rw [ha] at h1
    subst hE
    replace hR := hide hR
    go_enter Try.func19, Try.ntmps19
    go_wp2_with (go_at_call 20; (with_reducible refine seq_gw (h1.out _ hX0.out) ?_); intro g)
    go_returns
    exact ⟨_, [], rfl, by rw [hR.out]; rfl, OwnEr.nil _ _, hX0.out.trans g.grown⟩
  · rw [ha, if_pos rfl] at hE hR
    rw [ha] at h1
    have hll : L.length ≤ 8192 := by have := mayE_len ha; simp [eds] at this; omega
    have hg8 := hide (grp_r8 ha)
    replace hE := hide hE
    replace hR := hide hR
    have hbx := hide (Ob.new w 3 [.int .i64 t])
    clear ha
    go_enter Try.func19, Try.ntmps19
    go_wp2_with (first | (go_at_call 20; (with_reducible refine seq_gw (h1.out _ hX0.out) ?_); intro g) | (go_at_call 37; refine (eachRest_c L _ _ (hl'.out.ext (hX0.out.trans g.grown)) hll t _ (hbx.out.ext g.grown) hg8.out).mono ?_; rintro ee w3 ⟨v3, N, rfl, hN, ho3, hX3⟩))
    go_returns
    exact ⟨_, N, by rw [hE.out]; rfl, by rw [hN, hR.out], ho3.lower (hX0.out.trans g.grown).size, (hX0.out.trans g.grown).trans hX3⟩
end Go.Proofs.Ytljkneajdndgjaa
set_option linter.unusedVariables false
set_option linter.unusedSimpArgs false
namespace Go.Proofs.Ytljkneajdndgjaa
open Go.RowKit
theorem grp_back : ∀ l : List Ed, evL (fun f => (0, f)) (grp l) = l
  | [] => rfl
  | e :: r => by
    have ih := grp_back r
    unfold grp
    cases h : grp r with
    | nil =>
      rw [h] at ih
      have hr : r = [] := by rw [← ih]; rfl
      subst hr
      rfl
    | cons g t =>
      obtain ⟨q, f⟩ := g
      rw [h] at ih
      simp only [evL, List.flatMap_cons] at ih ⊢
      by_cases hq : q = e.1
      · simp only [if_pos hq, List.flatMap_cons, List.map_cons, List.cons_append]
        rw [ih, hq]
      · simp only [if_neg hq, List.flatMap_cons, List.map_cons, List.map_nil, List.cons_append, List.nil_append]
        rw [ih]
theorem mem_rows {l : List Ed} (hv : ∀ e ∈ l, mayR e.1 = true) (r : List Vl) : r ∈ rowsL l ↔ jmps l r ≠ [] := by
  rw [(rowsL_ok hv).2 r]
  constructor
  · rintro ⟨⟨q, j⟩, he, rfl⟩ h
    have := jmps_mem.2 he
    rw [h] at this; cases this
  · intro h
    obtain ⟨j, hj⟩ := List.exists_mem_of_ne_nil _ h
    exact ⟨_, jmps_mem.1 hj, rfl⟩
theorem jmps_const (q : List Vl) (f : List Jp) (r : List Vl) : jmps (f.map fun j => (q, j)) r = if q = r then f else [] := by
  induction f with
  | nil => simp [jmps]
  | cons j f ih =>
    rw [List.map_cons, jmps_cons, ih]
    by_cases h : q = r
    · simp only [if_pos h]
    · simp only [if_neg h]
theorem jmps_rows (op : List Jp → Int × List Jp) (F : List Vl → List Jp) (r : List Vl) : ∀ rows : List (List Vl), rows.Pairwise rlt → jmps (evL op (rows.map fun q => (q, F q))) r = if hasR rows r then (op (F r)).2 else []
  | [], _ => rfl
  | q :: rows, h => by
    have h' := List.pairwise_cons.1 h
    have ih := jmps_rows op F r rows h'.2
    have e : evL op ((q :: rows).map fun q => (q, F q)) = ((op (F q)).2.map fun j => (q, j)) ++ evL op (rows.map fun q => (q, F q)) := by simp [evL]
    rw [e, jmps_append, jmps_const, ih]
    by_cases hq : q = r
    · subst hq
      have hno : hasR rows q = false := by
        rw [← Bool.not_eq_true, hasR_iff]
        exact fun hm => rlt_irr q (h'.1 q hm)
      have hyes : hasR (q :: rows) q = true := hasR_iff.2 (by simp)
      rw [hno, hyes]; simp
    · have e2 : hasR (q :: rows) r = hasR rows r := by simp [hasR, hq]
      rw [if_neg hq, e2, List.nil_append]
/-- The jumps of each row, of what is made row by row. -/
theorem jmps_each {op : List Jp → Int × List Jp} (h0 : (op []).2 = []) {l : List Ed} (hv : ∀ e ∈ l, mayR e.1 = true) (r : List Vl) : jmps (evL op (byRows l)) r = (op (jmps l r)).2 := by
  unfold byRows
  rw [jmps_rows op (fun q => jmps l q) r _ (rowsL_ok hv).1]
  by_cases h : hasR (rowsL l) r = true
  · rw [if_pos h]
  · rw [if_neg h]
    have : jmps l r = [] := by
      rw [hasR_iff, mem_rows hv] at h
      exact Decidable.not_not.1 h
    rw [this, h0]
theorem evE_all {op : List Jp → Int × List Jp} : ∀ {G : List Gp}, evE op G = 0 → ∀ g ∈ G, (op g.2).1 = 0
  | [], _, g, hg => by cases hg
  | x :: t, h, g, hg => by
    rw [evE] at h
    by_cases hx : (op x.2).1 = 0
    · rw [if_pos hx] at h
      rcases List.mem_cons.1 hg with rfl | hg
      · exact hx
      · exact evE_all h g hg
    · rw [if_neg hx] at h; exact absurd h hx
theorem each_zero {op : List Jp → Int × List Jp} {G : List Gp} (h : eachE op G = 0) : evE op G = 0 ∧ (evL op G).length ≤ 4096 ∧ eachR op G = evL op G := by
  have h' := h
  unfold eachE at h
  split at h
  · rename_i he
    split at h
    · cases h
    · rename_i hl
      exact ⟨he, by omega, by unfold eachR; rw [if_pos h']⟩
  · rename_i he; exact absurd h he
theorem op_rows {op : List Jp → Int × List Jp} (h0 : (op []).1 = 0) {l : List Ed} (hv : ∀ e ∈ l, mayR e.1 = true) (h : evE op (byRows l) = 0) (r : List Vl) : (op (jmps l r)).1 = 0 := by
  by_cases hr : r ∈ rowsL l
  · exact evE_all h (r, jmps l r) (List.mem_map.2 ⟨r, hr, rfl⟩)
  · rw [mem_rows hv] at hr
    rw [Decidable.not_not.1 hr, h0]
/-- What is made row by row has its rows in order. -/
theorem rise_rows (op : List Jp → Int × List Jp) (F : List Vl → List Jp) : ∀ rows : List (List Vl), rows.Pairwise rlt → (∀ r ∈ rows, mayR r = true) → Rise (evL op (rows.map fun q => (q, F q)))
  | [], _, _ => ⟨by simp [evL], List.Pairwise.nil⟩
  | q :: rows, h, hv => by
    have h' := List.pairwise_cons.1 h
    obtain ⟨i1, i2⟩ := rise_rows op F rows h'.2 fun r hr => hv r (by simp [hr])
    have e : evL op ((q :: rows).map fun q => (q, F q)) = ((op (F q)).2.map fun j => (q, j)) ++ evL op (rows.map fun q => (q, F q)) := by simp [evL]
    rw [e]
    have hq := hv q (by simp)
    refine ⟨fun x hx => ?_, ?_⟩
    · rcases List.mem_append.1 hx with hx | hx
      · obtain ⟨j, -, rfl⟩ := List.mem_map.1 hx; exact hq
      · exact i1 x hx
    · rw [List.pairwise_append]
      refine ⟨?_, i2, fun x hx y hy => ?_⟩
      · rw [List.pairwise_map]
        refine List.Pairwise.imp (R := fun _ _ => True) (fun _ => by rw [cmpT_self hq]; exact Int.le_refl 0) ?_
        exact List.pairwise_of_forall (fun _ _ => trivial)
      · obtain ⟨j, -, rfl⟩ := List.mem_map.1 hx
        simp only [evL, List.mem_flatMap, List.mem_map] at hy
        obtain ⟨g, ⟨r, hr, rfl⟩, j', -, rfl⟩ := hy
        have := (h'.1 r hr).2
        simp only
        omega
theorem rise_each (op : List Jp → Int × List Jp) {l : List Ed} (hv : ∀ e ∈ l, mayR e.1 = true) : Rise (evL op (byRows l)) :=
  rise_rows op _ _ (rowsL_ok hv).1 fun r hr => by obtain ⟨e, he, rfl⟩ := ((rowsL_ok hv).2 r).1 hr; exact hv e he
/-- What is made row by row is in form. -/
theorem may_each {op : List Jp → Int × List Jp} (h0 : (op []).2 = []) {l : List Ed} (hv : ∀ e ∈ l, mayR e.1 = true) (hl : (evL op (byRows l)).length ≤ 4096) (hj : ∀ r, mayJ (op (jmps l r)).2 = true) : mayE (evL op (byRows l)) = true := by
  have hr := rise_each op hv
  rw [mayE_iff]
  refine ⟨hl, hr, fun g hg => ?_⟩
  rw [((grp_rows hr).2.2 g hg).1, jmps_each h0 hv]
  exact hj g.1
theorem tell_zero (v : Int → Int) (h : ∀ p, v p = 0) : ∀ ps : List Int, tell v ps 0 = []
  | [] => rfl
  | p :: r => by rw [tell, if_pos (h p), h p]; exact tell_zero v h r
theorem ahOp_nil (t : Int) : ahOp t [] = (0, []) := by
  have e : ahL [] t = [] := tell_zero _ (fun p => by unfold ahV; split <;> rfl) _
  have e1 : ahE [] t = 0 := ahE_zero.2 ⟨mayJ_nil, by rw [e]; exact mayJ_nil⟩
  unfold ahOp ahR
  rw [e1, if_pos rfl, e]
theorem reOp_nil (t : Int) : reOp t [] = (0, []) := by
  have e : reL [] t = [] := by
    unfold reL
    split
    · rfl
    · exact tell_zero _ (fun p => rfl) _
  have e1 : reE [] t = 0 := reE_zero.2 ⟨mayJ_nil, by rw [e]; exact mayJ_nil⟩
  unfold reOp reR
  rw [e1, if_pos rfl, e]
theorem mp_zero {op : List Jp → Int × List Jp} {l : List Ed} (h : mpE op l = 0) : mayE l = true ∧ evE op (byRows l) = 0 ∧ mpR op l = evL op (byRows l) := by
  unfold mpE at h
  by_cases hm : mayE l = true
  · rw [if_pos hm] at h
    obtain ⟨h1, -, h3⟩ := each_zero h
    rw [grp_eq (mayE_rise hm)] at h1 h3
    exact ⟨hm, h1, by unfold mpR; rw [if_pos hm, grp_eq (mayE_rise hm), h3]⟩
  · rw [if_neg hm] at h; cases h
end Go.Proofs.Ytljkneajdndgjaa
set_option linter.unusedVariables false
set_option linter.unusedSimpArgs false
namespace Go.Proofs.Ytljkneajdndgjaa
open Go.RowKit
/-- A copy: a row, how often. A part: from, to; its rows. -/
abbrev Cp := List Vl × Int
abbrev Pt := (Int × Int) × List Cp
/-- A tick. -/
def stick (n : Int) : Bool := decide (0 ≤ n) && decide (n ≤ 1125899906842624)
end Go.Proofs.Ytljkneajdndgjaa
set_option linter.unusedVariables false
set_option linter.unusedSimpArgs false
namespace Go.Proofs.Ytljkneajdndgjaa
open Go.RowKit
/-- A copy as it lies: its row's slice, and the copy. -/
abbrev Vc := Value × Cp
def cc1 (p : Vc) : List Value := [p.1, .int .i64 p.2.2]
def cc (L : List Vc) : List Value := L.flatMap cc1
abbrev cps (L : List Vc) : List Cp := L.map Prod.snd
theorem cc_cons (p : Vc) (L : List Vc) : cc (p :: L) = cc1 p ++ cc L := by simp [cc]
theorem cc_append (L M : List Vc) : cc (L ++ M) = cc L ++ cc M := by simp [cc]
theorem cc_get : ∀ (L : List Vc) (i : Nat) (p : Vc), L[i]? = some p → ∀ j v, (cc1 p)[j]? = some v → (cc L)[i * 2 + j]? = some v
  | q :: r, 0, p, h, j, v, hv => by
    simp at h; subst h
    have hj : j < (cc1 q).length := (List.getElem?_eq_some_iff.1 hv).1
    rw [cc_cons, List.getElem?_append_left (by omega), show 0 * 2 + j = j by omega]; exact hv
  | q :: r, i + 1, p, h, j, v, hv => by
    have := cc_get r i p (by simpa using h) j v hv
    rw [cc_cons, show (i + 1) * 2 + j = (cc1 q).length + (i * 2 + j) by simp [cc1]; omega, List.getElem?_append_right (by omega), Nat.add_sub_cancel_left]
    exact this
/-- Copies, where they lie. -/
def Cw (w : World) (S : List Nat) (v : Value) (L : List Vc) : Prop := Sl w S 2 v L.length (cc L) ∧ ∀ p ∈ L, Rw w S p.1 p.2.1
/-- A part as it lies: the slice of its rows, its span, its copies. -/
abbrev Vp := Value × ((Int × Int) × List Vc)
def pt1 (p : Vp) : List Value := [.int .i64 p.2.1.1, .int .i64 p.2.1.2, p.1]
def pt (P : List Vp) : List Value := P.flatMap pt1
abbrev pts (P : List Vp) : List Pt := P.map fun p => (p.2.1, cps p.2.2)
theorem pt_cons (p : Vp) (L : List Vp) : pt (p :: L) = pt1 p ++ pt L := by simp [pt]
theorem pt_append (L M : List Vp) : pt (L ++ M) = pt L ++ pt M := by simp [pt]
theorem pts_append (L M : List Vp) : pts (L ++ M) = pts L ++ pts M := List.map_append
theorem pt_get : ∀ (L : List Vp) (i : Nat) (p : Vp), L[i]? = some p → ∀ j v, (pt1 p)[j]? = some v → (pt L)[i * 3 + j]? = some v
  | q :: r, 0, p, h, j, v, hv => by
    simp at h; subst h
    have hj : j < (pt1 q).length := (List.getElem?_eq_some_iff.1 hv).1
    rw [pt_cons, List.getElem?_append_left (by omega), show 0 * 3 + j = j by omega]; exact hv
  | q :: r, i + 1, p, h, j, v, hv => by
    have := pt_get r i p (by simpa using h) j v hv
    rw [pt_cons, show (i + 1) * 3 + j = (pt1 q).length + (i * 3 + j) by simp [pt1]; omega, List.getElem?_append_right (by omega), Nat.add_sub_cancel_left]
    exact this
/-- Parts, where they lie. -/
def Pw (w : World) (S : List Nat) (v : Value) (P : List Vp) : Prop := Sl w S 3 v P.length (pt P) ∧ ∀ p ∈ P, Cw w S p.1 p.2.2
section
variable {w w' : World} {S S' : List Nat} {v : Value} {L : List Vc} {P : List Vp}
theorem Cw.ext (h : Cw w S v L) (k : Ext w w') : Cw w' S v L := ⟨Sl.ext h.1 k, fun p hp => Sl.ext (h.2 p hp) k⟩
theorem Pw.ext (h : Pw w S v P) (k : Ext w w') : Pw w' S v P := ⟨Sl.ext h.1 k, fun p hp => (h.2 p hp).ext k⟩
theorem cw_form (h : Cw w S v L) : ∃ A cap, v = .slice A L.length cap ∧ L.length ≤ cap ∧ cap ≤ maxLen ∧
    ∀ (i : Nat) (p : Vc), L[i]? = some p → ∃ b o, A = some ⟨b, o, none⟩ ∧ b ∉ S ∧ b < w.heap.size ∧ w.cell? ⟨b, o + i * 2, none⟩ = some p.1 ∧ w.cell? ⟨b, o + i * 2 + 1, none⟩ = some (.int .i64 p.2.2) := by
  obtain ⟨A, cap, rfl, h1, h2, h3, h4⟩ := h.1
  refine ⟨A, cap, rfl, h1, h2, fun i p hp => ?_⟩
  have hg := cc_get L i p hp
  rcases h4 with h4 | ⟨b, o, rfl, hb, hc⟩
  · have := hg 0 p.1 rfl
    rw [h4] at this
    simp at this
  · have c0 := hc _ _ (hg 0 p.1 rfl)
    have c1 := hc _ _ (hg 1 _ rfl)
    exact ⟨b, o, rfl, hb, block_lt_of_cell c0, by simpa [Nat.add_assoc] using c0, by simpa [Nat.add_assoc] using c1⟩
theorem pw_form (h : Pw w S v P) : ∃ A cap, v = .slice A P.length cap ∧ P.length ≤ cap ∧ cap ≤ maxLen ∧
    ∀ (i : Nat) (p : Vp), P[i]? = some p → ∃ b o, A = some ⟨b, o, none⟩ ∧ b ∉ S ∧ b < w.heap.size ∧ w.cell? ⟨b, o + i * 3, none⟩ = some (.int .i64 p.2.1.1) ∧ w.cell? ⟨b, o + i * 3 + 1, none⟩ = some (.int .i64 p.2.1.2) ∧ w.cell? ⟨b, o + i * 3 + 1 + 1, none⟩ = some p.1 := by
  obtain ⟨A, cap, rfl, h1, h2, h3, h4⟩ := h.1
  refine ⟨A, cap, rfl, h1, h2, fun i p hp => ?_⟩
  have hg := pt_get P i p hp
  rcases h4 with h4 | ⟨b, o, rfl, hb, hc⟩
  · have := hg 0 _ rfl
    rw [h4] at this
    simp at this
  · have c0 := hc _ _ (hg 0 _ rfl)
    have c1 := hc _ _ (hg 1 _ rfl)
    have c2 := hc _ _ (hg 2 _ rfl)
    exact ⟨b, o, rfl, hb, block_lt_of_cell c0, by simpa [Nat.add_assoc] using c0, by simpa [Nat.add_assoc] using c1, by simpa [Nat.add_assoc] using c2⟩
end
/-- A slice of one's own stays where other blocks are turned. -/
theorem own_away {w w' : World} {S : List Nat} {base e sz n : Nat} {v : Value} {xs : List Value} (h : w.ownsRow base e sz v n xs) (hF : Fr S w w') (hS : ∀ b ∈ S, b ∉ ob v) : w'.ownsRow base e sz v n xs := by
  refine ⟨h.1, ?_⟩
  rcases h.2 with h2 | ⟨g, cap, cur, rfl, hb, hg, r⟩
  · exact .inl h2
  · exact .inr ⟨g, cap, cur, rfl, hb, (hF.block g (lt_of_block hg) (fun m => hS g m (by simp [ob, Value.ownBlock]))).trans hg, r⟩
theorem own_kind {w : World} {base e sz n : Nat} {v : Value} {xs : List Value} (h : w.ownsRow base e sz v n xs) {b : Nat} (hb : b ∈ ob v) : ∃ cs c, w.heap[b]? = some (.cells cs e c) := by
  rcases h.2 with ⟨rfl, -⟩ | ⟨g, cap, cur, rfl, -, hg, -⟩
  · simp [ob, Value.ownBlock] at hb
  · have : b = g := by simpa [ob, Value.ownBlock] using hb
    subst this
    exact ⟨_, _, hg⟩
theorem own_far {w : World} {b1 e1 s1 n1 b2 e2 s2 n2 : Nat} {v1 v2 : Value} {xs1 xs2 : List Value} (h : w.ownsRow b1 e1 s1 v1 n1 xs1) (k : w.ownsRow b2 e2 s2 v2 n2 xs2) (he : e1 ≠ e2) : ∀ b ∈ ob v1, b ∉ ob v2 := by
  intro b h1 h2
  obtain ⟨cs, c, g1⟩ := own_kind h h1
  obtain ⟨ds, d, g2⟩ := own_kind k h2
  rw [g1] at g2
  injection g2 with g2
  injection g2 with _ g2
  exact he g2
/-- Copies of one's own; parts of one's own. -/
def OwnC (w : World) (B : Nat) (v : Value) (L : List Vc) : Prop := w.ownsRow B 54 2 v L.length (cc L) ∧ ∀ p ∈ L, OwnR w 0 p.1 p.2.1
def OwnP (w : World) (B : Nat) (v : Value) (P : List Vp) : Prop := w.ownsRow B 44 3 v P.length (pt P) ∧ ∀ p ∈ P, OwnC w B p.1 p.2.2
/-- No two parts share the block of their rows. -/
def Dis (P : List Vp) : Prop := P.Pairwise fun p q => ∀ b ∈ ob p.1, b ∉ ob q.1
section
variable {w w' : World} {S : List Nat} {B B' : Nat} {v : Value} {L : List Vc} {P : List Vp}
theorem OwnP.nil (w : World) (B : Nat) : OwnP w B (.slice none 0 0) [] := ⟨World.ownsRow_nil _ _ _ _, by simp⟩
theorem OwnC.ext (h : OwnC w B v L) (k : Ext w w') : OwnC w' B v L := ⟨own_ext h.1 k, fun p hp => own_ext (h.2 p hp) k⟩
theorem OwnP.ext (h : OwnP w B v P) (k : Ext w w') : OwnP w' B v P := ⟨own_ext h.1 k, fun p hp => (h.2 p hp).ext k⟩
theorem OwnC.base (h : OwnC w B v L) (hb : B' ≤ B) : OwnC w B' v L := ⟨own_base h.1 hb, h.2⟩
theorem OwnP.base (h : OwnP w B v P) (hb : B' ≤ B) : OwnP w B' v P := ⟨own_base h.1 hb, fun p hp => (h.2 p hp).base hb⟩
theorem OwnC.cw (h : OwnC w B v L) : Cw w [] v L := ⟨Sl.own h.1 (by simp), fun p hp => Sl.own (h.2 p hp) (by simp)⟩
theorem OwnP.pw (h : OwnP w B v P) : Pw w [] v P := ⟨Sl.own h.1 (by simp), fun p hp => (h.2 p hp).cw⟩
/-- Copies stay, where blocks are turned that are neither theirs nor rows. -/
theorem OwnC.away (h : OwnC w B v L) (hF : Fr S w w') (hS : ∀ b ∈ S, b ∉ ob v ∧ ∀ cs c, w.heap[b]? ≠ some (.cells cs 48 c)) : OwnC w' B v L :=
  ⟨own_away h.1 hF fun b hb => (hS b hb).1, fun p hp => own_away (h.2 p hp) hF fun b hb hb2 => by
    obtain ⟨cs, c, hc⟩ := own_kind (h.2 p hp) hb2
    exact (hS b hb).2 cs c hc⟩
theorem OwnC.form (h : OwnC w B v L) : ∃ A cap, v = .slice A L.length cap := own_form h.1
theorem OwnP.form (h : OwnP w B v P) : ∃ A cap, v = .slice A P.length cap := own_form h.1
theorem copy_no_value {g : Nat} {cs : Array Value} {c : Nat × Nat} (h : w.heap[g]? = some (.cells cs 54 c)) : ∀ cs c, w.heap[g]? ≠ some (.cells cs 48 c) := by
  intro ds d hd
  rw [h] at hd
  injection hd with hd
  injection hd with _ hd
  exact absurd hd (by decide)
theorem own_block2 {base e sz n : Nat} {xs : List Value} (h : w.ownsRow base e sz v n xs) (hn : 0 < n) : ∃ g cap, v = .slice (some ⟨g, 0, none⟩) n cap ∧ base ≤ g ∧ g < w.heap.size := by
  rcases h.2 with ⟨-, h0⟩ | ⟨g, cap, cur, rfl, hb, hg, -⟩
  · omega
  · exact ⟨g, cap, rfl, hb, lt_of_block hg⟩
end
end Go.Proofs.Ytljkneajdndgjaa
set_option linter.unusedVariables false
set_option linter.unusedSimpArgs false
namespace Go.Proofs.Ytljkneajdndgjaa
open Go.Maps (Keyed)
section
variable {α : Type} {f : α → Lit × Value} {P : Program} {k : TypeId} {w w' : World} {b n : Nat} {M : List α}
end
section
variable {α : Type} {f : α → Lit × Value} {P : Program} {k : TypeId} {w : World} {b n : Nat} {M : List α} {ops : Array Oper} {rest : List Oper} {o : Oper} {a : Act} {Q : Exit → Act → World → Prop}
end
end Go.Proofs.Ytljkneajdndgjaa
set_option linter.unusedVariables false
set_option linter.unusedSimpArgs false
namespace Go.Proofs.Ytljkneajdndgjaa
open Go.RowKit
attribute [local go_sem] GW.cell GW.frozen In.eq_true In.le_true In.ne In.ne' In.ne_add In.ne_add' In.lt_add Upto.le_true Upto.le_add Upto.lt_add Oper.semAt_some wide_depth wide_fn
section
variable {α : Type} {f : α → Lit × Value} {P : Program} {k : TypeId} {w : World} {b n : Nat} {M : List α} {ops : Array Oper} {rest : List Oper} {o : Oper} {a : Act} {Q : Exit → Act → World → Prop} {F : Fence} {d : Nat}
end
section
variable {α : Type} {f : α → Lit × Value} {P : Program} {k : TypeId} {w w' : World} {b n r : Nat} {M rest : List α}
end
section
variable {P : Program} {w : World}
theorem wplIn_app {F : Fence} {d : Nat} {ops : Array Oper} {rest : List Oper} {o : Oper} {a : Act} {Q : Exit → Act → World → Prop} {t tx e : TypeId} {z : Value} {size bytes base n m : Nat} {v x : Value} {xs news : List Value} (T : ElemT P t e z size bytes)
    (hgd : o.guard = none) (s y : Operand) (ho : o.op = .call { callee := .builtin .append, args := #[s, y], argTypes := #[t, tx] }) (hv : a.eval s = v) (hown : w.ownsRow base e size v n xs) (hx : a.eval y = x) (hs : Src P size tx x m news w)
    (h63 : n + m ≤ maxLen) (hbytes : (n + m) * bytes ≤ 140737488355328) (hbase : base ≤ w.heap.size)
    (h : ∀ v' w', w'.ownsRow base e size v' (n + m) (xs ++ news) → w.grownBy w' v.ownBlock → (v'.ownBlock = v.ownBlock ∨ v'.ownBlock = some w.heap.size) → wpListIn F d P ops Q rest (a.put o.dst v') w') : wpListIn F d P ops Q (o :: rest) a w := by
  refine wpListIn_plain hgd fun K hK => ?_
  obtain ⟨v', w', hr, h2, h3, h4⟩ := run_app (ty := o.type) T hown hs h63 hbytes hbase
  unfold Oper.wpIn
  refine ⟨?_, ?_⟩
  · simp [Oper.about, ho, resolve, Target.leads, Sem.run_pure]
  · rw [Oper.semAt_plain F _ _ (by rw [ho]; intro c hc'; cases hc')]
    unfold execOp
    simp only [ho, resolve, invoke, builtin, Sem.run_bind, Sem.run_pure, Result.andThen_ok, List.map_toArray, List.map_cons, List.map_nil, hv, hx, hr]
    exact hK _ _ (h v' w' h2 h3 h4)
end
section
variable {α : Type} {f : α → Lit × Value} {P : Program} {k : TypeId} {w : World} {b n : Nat} {M : List α} {ops : Array Oper} {rest : List Oper} {o : Oper} {a : Act} {Q : Exit → Act → World → Prop} {F : Fence} {d : Nat}
end
end Go.Proofs.Ytljkneajdndgjaa
set_option linter.unusedVariables false
set_option linter.unusedSimpArgs false
namespace Go.Proofs.Ytljkneajdndgjaa
open Go.RowKit
theorem nodup_len {α : Type} [DecidableEq α] : ∀ (l m : List α), l.Nodup → (∀ x ∈ l, x ∈ m) → l.length ≤ m.length
  | [], m, _, _ => Nat.zero_le _
  | x :: l, m, hn, h => by
    obtain ⟨h1, h2⟩ := List.nodup_cons.1 hn
    have hx := h x (by simp)
    have := nodup_len l (m.erase x) h2 fun y hy => (List.mem_erase_of_ne (fun e => h1 (by rw [← e]; exact hy))).2 (h y (by simp [hy]))
    rw [List.length_erase_of_mem hx] at this
    have := List.length_pos_of_mem hx
    rw [List.length_cons]
    omega
theorem asc_nodup {l : List Int} (h : l.Pairwise (· < ·)) : l.Nodup := h.imp fun {a b} hab e => by omega
/-- The rows of a window. -/
def hrows (s hp f r : Int) (G : List Gp) (t : Int) : List Cp := (G.filter fun g => decide (t ∈ ofL s hp r g.2 f)).map fun g => (g.1, copN g.2 t (hend s t))
/-- Where the windows begin that have rows, each once, in order. -/
def insAll (l : List Int) : List Int := l.foldl ins []
theorem insAll_gen : ∀ (l a : List Int), a.Pairwise (· < ·) → (l.foldl ins a).Pairwise (· < ·) ∧ ∀ x, x ∈ l.foldl ins a ↔ x ∈ a ∨ x ∈ l
  | [], a, h => ⟨h, by simp⟩
  | t :: l, a, h => by
    obtain ⟨h1, h2⟩ := insAll_gen l (ins a t) (ins_asc t h)
    refine ⟨h1, fun x => ?_⟩
    rw [List.foldl_cons, h2 x, ins_mem, List.mem_cons]
    constructor
    · rintro ((h | h) | h)
      · exact .inr (.inl h)
      · exact .inl h
      · exact .inr (.inr h)
    · rintro (h | h | h)
      · exact .inl (.inr h)
      · exact .inl (.inl h)
      · exact .inr h
theorem insAll_asc (l : List Int) : (insAll l).Pairwise (· < ·) := (insAll_gen l [] List.Pairwise.nil).1
theorem insAll_mem (l : List Int) (x : Int) : x ∈ insAll l ↔ x ∈ l := by have := (insAll_gen l [] List.Pairwise.nil).2 x; simpa [insAll] using this
theorem OwnC.stab {B B0 : Nat} {v : Value} {L : List Vc} : Stab B fun W => OwnC W B0 v L := (Stab.own _ _ _ _ _ _).and (Stab.all fun p => Stab.all fun _ => Stab.own _ _ _ _ _ _)
end Go.Proofs.Ytljkneajdndgjaa
