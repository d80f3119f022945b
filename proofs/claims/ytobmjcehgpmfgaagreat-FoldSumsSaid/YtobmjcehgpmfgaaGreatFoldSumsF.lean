/-
  A helper of ours: no claim of its own. The closed facts of the row of FoldSums, one by one.
-/
import Derived.Test.YtobmjcehgpmfgaaGreatFolKp
import Derived.Test.YtobmjcehgpmfgaaGreatEdgOa
import Derived.Test.YtobmjcehgpmfgaaGreatEdgH
import Derived.Test.YtobmjcehgpmfgaaGreatEdgB
import Derived.Test.YtobmjcehgpmfgaaGreatRows
import Derived.Test.YtobmjcehgpmfgaaGreatChecked
import Derived.WalkKit
import Derived.ProofKit
import Derived.JoinedCond
set_option linter.unusedVariables false
set_option linter.unusedSimpArgs false
namespace Go.Proofs.YtobmjcehgpmfgaaGreat
open Go.RowKit
def okEv (e : Ev) : Prop := mayR e.1.2 = true ∧ 0 ≤ e.2.1.1 ∧ e.2.1.1 < e.2.1.2 ∧ e.2.1.2 ≤ 1125899906842624
def okS (S : StD) : Prop := ∀ e ∈ S.2, okEv e
/-- The ways of a message that is taken. -/
theorem take_ways {S : StD} {m : PM} (h0 : chkD S m = 0) : (m.1.1 = 3 ∧ stp S m = (m.1.2.2.1, S.2) ∧ chg S m = zCh) ∨
    (m.1.1 = 1 ∧ okEv ((m.1.2.1, m.2), (m.1.2.2.1, m.1.2.2.2), false) ∧ (stp S m).2 = S.2 ++ [((m.1.2.1, m.2), (m.1.2.2.1, m.1.2.2.2), false)] ∧ chg S m = (S.2.length + 1, m.2, (0, 0), (m.1.2.2.1, m.1.2.2.2))) ∨
    (m.1.1 = 2 ∧ ∃ j e, S.2[j]? = some e ∧ e.2.2 = false ∧ m.1.2.2.2 < e.2.1.2 ∧ e.2.1.1 ≤ m.1.2.2.2 ∧ S.1 ≤ m.1.2.2.2 ∧ (stp S m).2 = S.2.set j (if m.1.2.2.2 = e.2.1.1 then (e.1, e.2.1, true) else (e.1, (e.2.1.1, m.1.2.2.2), false)) ∧ chg S m = (j + 1, e.1.2, e.2.1, cut e.2.1 m.1.2.2.2)) := by
  obtain ⟨z1, z2, z3, z4⟩ := chkO_zero h0
  have e1 : stp S m = (tk S m).1 := by unfold stp; rw [if_pos h0]
  have e2 : chg S m = (tk S m).2 := by unfold chg; rw [if_pos h0]
  rw [e1, e2]
  unfold tk
  by_cases h3 : m.1.1 = 3
  · rw [if_pos h3]; exact .inl ⟨h3, rfl, rfl⟩
  · rw [if_neg h3]
    by_cases h1 : m.1.1 = 1
    · rw [if_pos h1]
      have z := z1
      unfold mkM at z
      rw [h1] at z
      obtain ⟨k1, -, k2, k3, k4⟩ := mchk_one z
      exact .inr (.inl ⟨h1, ⟨k1, k2, k3, k4⟩, rfl, rfl⟩)
    · rw [if_neg h1]
      have h2 : m.1.1 = 2 := by rcases mchk_kind z1 with hk | hk | hk; exact absurd hk h1; exact hk; exact absurd hk h3
      obtain ⟨x, hx, y1, y2, y3⟩ := z2 h2
      cases hk : kn S.1 m.1.2.1 0 S.2 with
      | none => rw [hk] at hx; cases hx
      | some p =>
        obtain ⟨j, e⟩ := p
        rw [hk, Option.map_some, Option.some.injEq] at hx
        subst hx
        obtain ⟨-, hj, hl⟩ := kn_some hk
        rw [Nat.sub_zero] at hj
        exact .inr (.inr ⟨h2, j, e, hj, (live_iff.1 hl).2.1, y1, y2, y3, rfl, rfl⟩)
theorem stp_no {S : StD} {m : PM} (h0 : chkD S m ≠ 0) : stp S m = S := by unfold stp; rw [if_neg h0]
theorem stp_okS {S : StD} (h : okS S) (m : PM) : okS (stp S m) := by
  by_cases h0 : chkD S m = 0
  · rcases take_ways h0 with ⟨-, e, -⟩ | ⟨-, k, e, -⟩ | ⟨-, j, x, hj, hg, y1, y2, y3, e, -⟩
    · rw [e]; exact h
    · intro a ha
      rw [e] at ha
      rcases List.mem_append.1 ha with ha | ha
      · exact h a ha
      · rw [List.mem_singleton.1 ha]; exact k
    · intro a ha
      rw [e] at ha
      have hx := h x (List.mem_of_getElem? hj)
      rcases List.mem_or_eq_of_mem_set ha with ha | ha
      · exact h a ha
      · rw [ha]
        by_cases ht : m.1.2.2.2 = x.2.1.1
        · rw [if_pos ht]; exact hx
        · rw [if_neg ht]
          obtain ⟨k1, k2, k3, k4⟩ := hx
          exact ⟨k1, k2, by simp only; omega, by simp only; omega⟩
  · rw [stp_no h0]; exact h
theorem run_okS : ∀ (l : List PM) {S : StD}, okS S → okS (runS S l)
  | [], _, h => h
  | m :: r, S, h => run_okS r (stp_okS h m)
theorem ex_okS : okS (0, []) := fun e he => by cases he
theorem exP_may (l : List PM) : (exP l).all mayPc = true := by
  have hS := run_okS l ex_okS
  rw [List.all_eq_true]
  intro x hx
  obtain ⟨y, hy, rfl⟩ := List.mem_map.1 hx
  obtain ⟨hy, hg⟩ := List.mem_filter.1 hy
  obtain ⟨e, he, rfl⟩ := List.mem_map.1 hy
  obtain ⟨k1, k2, k3, k4⟩ := hS e he
  obtain ⟨e1, ⟨e2, e3⟩, eg⟩ := e
  cases eg
  · exact mayPc_of k1 (by show -1 ≤ e2; simp only at k2; omega) k3 k4
  · exact absurd hg (by simp [goneX, exE])
/-! the changes -/
def okCh (c : Ch) : Prop := mayR c.2.1 = true ∧ lifeB c.2.2.1 = true ∧ lifeB c.2.2.2 = true
theorem life_zero : lifeB (0, 0) = true := by decide
theorem life_span {a b : Int} (h1 : 0 ≤ a) (h2 : a < b) (h3 : b ≤ 1125899906842624) : lifeB (a, b) = true := by
  unfold lifeB spanB
  rw [mayB_mk ⟨h2, h1, by omega, by omega, h3⟩]; rfl
theorem isC_iff {S : StD} {m : PM} : isC S m = true ↔ chkD S m = 0 ∧ m.1.1 ≠ 3 := by unfold isC; rw [decide_eq_true_iff]
theorem chg_ok {S : StD} (h : okS S) {m : PM} (hC : isC S m = true) : okCh (chg S m) := by
  obtain ⟨h0, h3⟩ := isC_iff.1 hC
  rcases take_ways h0 with ⟨k, -⟩ | ⟨-, k, -, e⟩ | ⟨-, j, x, hj, hg, y1, y2, y3, -, e⟩
  · exact absurd k h3
  · rw [e]
    obtain ⟨k1, k2, k3, k4⟩ := k
    exact ⟨k1, life_zero, life_span k2 k3 k4⟩
  · rw [e]
    obtain ⟨k1, k2, k3, k4⟩ := h x (List.mem_of_getElem? hj)
    refine ⟨k1, life_span k2 k3 k4, ?_⟩
    show lifeB (cut x.2.1 m.1.2.2.2) = true
    unfold cut
    by_cases ht : m.1.2.2.2 = x.2.1.1
    · rw [if_pos ht]; exact life_zero
    · rw [if_neg ht]; exact life_span k2 (by omega) (by omega)
def chv (q : List Vl) (u : Int) (c : Ch) : Int := if c.2.1 = q then jv (chJ c.2.2.1 c.2.2.2) u else 0
def sumV (q : List Vl) (u : Int) : List Ch → Int
  | [] => 0
  | c :: r => chv q u c + sumV q u r
theorem sumV_app (q : List Vl) (u : Int) : ∀ a b : List Ch, sumV q u (a ++ b) = sumV q u a + sumV q u b
  | [], b => by simp [sumV]
  | c :: r, b => by simp only [List.cons_append, sumV]; rw [sumV_app q u r b]; omega
theorem jv_chJ (o n : Spn) (u : Int) : jv (chJ o n) u = (if n.1 ≤ u then 1 else 0) - (if n.2 ≤ u then 1 else 0) - (if o.1 ≤ u then 1 else 0) + (if o.2 ≤ u then 1 else 0) := by
  unfold chJ
  simp only [jv]
  split <;> split <;> split <;> split <;> omega
theorem indE_in (q : List Vl) (u i a b : Int) : indE q u ((i, q), (a, b), false) = if a ≤ u ∧ u < b then 1 else 0 := by unfold indE; simp
theorem indE_gone (q : List Vl) (u : Int) (x : Int × List Vl) (s : Spn) : indE q u (x, s, true) = 0 := by unfold indE; simp
theorem indE_row {q r : List Vl} (u i : Int) (s : Spn) (g : Bool) (h : r ≠ q) : indE q u ((i, r), s, g) = 0 := by unfold indE; simp [h]
theorem ar_ins (a b u : Int) (h : a < b) : (if a ≤ u then (1 : Int) else 0) - (if b ≤ u then 1 else 0) - (if (0 : Int) ≤ u then 1 else 0) + (if (0 : Int) ≤ u then 1 else 0) = if a ≤ u ∧ u < b then 1 else 0 := by
  (repeat' split) <;> omega
theorem ar_del (a b u : Int) (h : a < b) : (if (0 : Int) ≤ u then (1 : Int) else 0) - (if (0 : Int) ≤ u then 1 else 0) - (if a ≤ u then 1 else 0) + (if b ≤ u then 1 else 0) = 0 - if a ≤ u ∧ u < b then 1 else 0 := by
  (repeat' split) <;> omega
theorem ar_cut (a t b u : Int) (h1 : a < t) (h2 : t < b) : (if a ≤ u then (1 : Int) else 0) - (if t ≤ u then 1 else 0) - (if a ≤ u then 1 else 0) + (if b ≤ u then 1 else 0) = (if a ≤ u ∧ u < t then 1 else 0) - if a ≤ u ∧ u < b then 1 else 0 := by
  (repeat' split) <;> omega
theorem chg_val {S : StD} (h : okS S) (m : PM) (q : List Vl) (u : Int) : (if isC S m then chv q u (chg S m) else 0) = valE q u (stp S m).2 - valE q u S.2 := by
  by_cases h0 : chkD S m = 0
  · rcases take_ways h0 with ⟨k, e, -⟩ | ⟨k, ⟨k1, k2, k3, k4⟩, e, e'⟩ | ⟨k, j, x, hj, hg, y1, y2, y3, e, e'⟩
    · rw [e, if_neg (by rw [isC_iff]; exact fun hh => hh.2 k)]
      exact (Int.sub_self _).symm
    · rw [if_pos (isC_iff.2 ⟨h0, by rw [k]; decide⟩), e, e', valE_app]
      simp only [valE] at k2 k3 ⊢
      unfold chv
      simp only
      by_cases hq : m.2 = q
      · rw [if_pos hq, jv_chJ, hq, indE_in]
        simp only
        rw [ar_ins _ _ _ k3]; omega
      · rw [if_neg hq, indE_row u _ _ _ hq]; omega
    · rw [if_pos (isC_iff.2 ⟨h0, by rw [k]; decide⟩), e, e', valE_set q u S.2 j x _ hj]
      obtain ⟨k1, k2, k3, k4⟩ := h x (List.mem_of_getElem? hj)
      obtain ⟨⟨xi, xr⟩, ⟨x1, x2⟩, xg⟩ := x
      simp only at hg y1 y2 k2 k3 k4 ⊢
      subst hg
      unfold chv cut
      simp only
      by_cases hq : xr = q
      · subst hq
        rw [if_pos rfl, jv_chJ, indE_in]
        by_cases ht : m.1.2.2.2 = x1
        · rw [if_pos ht, if_pos ht, indE_gone]
          simp only
          rw [ar_del _ _ _ k3]; omega
        · rw [if_neg ht, if_neg ht, indE_in]
          simp only
          rw [ar_cut _ _ _ _ (by omega) y1]; omega
      · rw [if_neg hq, indE_row u _ _ _ hq]
        by_cases ht : m.1.2.2.2 = x1
        · rw [if_pos ht, indE_gone]; omega
        · rw [if_neg ht, indE_row u _ _ _ hq]; omega
  · rw [stp_no h0, if_neg (by rw [isC_iff]; exact fun hh => h0 hh.1)]
    omega
theorem runC_val : ∀ (l : List PM) {S : StD}, okS S → ∀ (q : List Vl) (u : Int), sumV q u (runC S l) = valE q u (runS S l).2 - valE q u S.2
  | [], S, h, q, u => by simp [runC, runS, sumV]
  | m :: r, S, h, q, u => by
    have ih := runC_val r (stp_okS h m) q u
    have hc := chg_val h m q u
    show sumV q u ((if isC S m then [chg S m] else []) ++ runC (stp S m) r) = valE q u (runS (stp S m) r).2 - valE q u S.2
    rw [sumV_app, ih]
    cases hC : isC S m
    · rw [hC] at hc
      simp only [Bool.false_eq_true, if_false] at hc ⊢
      simp only [sumV]; omega
    · rw [hC] at hc
      simp only [if_true] at hc ⊢
      simp only [sumV]; omega
theorem runC_ok : ∀ (l : List PM) {S : StD}, okS S → ∀ c ∈ runC S l, okCh c
  | [], _, _, c, hc => by cases hc
  | m :: r, S, h, c, hc => by
    rcases List.mem_append.1 (show c ∈ (if isC S m then [chg S m] else []) ++ runC (stp S m) r from hc) with hc | hc
    · cases hC : isC S m
      · rw [hC] at hc; cases hc
      · rw [hC] at hc
        have hc' : c = chg S m := by simpa using hc
        rw [hc']
        exact chg_ok h hC
    · exact runC_ok r (stp_okS h m) c hc
/-! edges -/
/-- What a list of edges amounts to. -/
def Amt (E : List Ed) (V : List Vl → Int → Int) : Prop := mayE E = true ∧ ∀ r u, u < 1125899906842624 → jv (jmps E r) u = V r u
theorem Amt.nil : Amt [] fun _ _ => 0 := ⟨by decide +kernel, fun r u _ => rfl⟩
theorem Amt.eq {E E' : List Ed} {V V' : List Vl → Int → Int} (h : Amt E V) (h' : Amt E' V') (hv : ∀ r u, u < 1125899906842624 → V r u = V' r u) : E = E' := by
  refine ed_ext (mayE_rise h.1) (mayE_rise h'.1) fun r => ?_
  have m1 := mayJ_rows h.1 r
  have m2 := mayJ_rows h'.1 r
  exact one_form (mayJ_canon m1) (mayJ_canon m2) (fun j hj => (okJ_iff.1 ((mayJ_iff.1 m1).2.1 j hj)).2.1) (fun j hj => (okJ_iff.1 ((mayJ_iff.1 m2).2.1 j hj)).2.1) fun u hu => by rw [h.2 r u hu, h'.2 r u hu, hv r u hu]
theorem jv_app (f g : List Jp) (u : Int) : jv (f ++ g) u = jv f u + jv g u := by
  induction f with
  | nil => simp [jv]
  | cons j f ih => simp only [List.cons_append, jv]; rw [ih]; omega
theorem Amt.one {c : Ch} (h : okCh c) : fdE c.2.1 c.2.2.1 c.2.2.2 = 0 ∧ Amt (fdR c.2.1 c.2.2.1 c.2.2.2) (fun r u => chv r u c) := by
  obtain ⟨h1, h2, h3⟩ := h
  have h0 : fdE c.2.1 c.2.2.1 c.2.2.2 = 0 := by unfold fdE; rw [h1, h2, h3]; rfl
  have hf := chJ_fine h2 h3
  obtain ⟨e1, e2⟩ := ne_one c.2.1 h1 (chJ c.2.2.1 c.2.2.2) hf (ch_may h2 h3)
  refine ⟨h0, ?_⟩
  have hR : fdR c.2.1 c.2.2.1 c.2.2.2 = (nmL (chJ c.2.2.1 c.2.2.2)).map fun j => (c.2.1, j) := by unfold fdR; rw [if_pos h0]
  rw [hR]
  refine ⟨by rw [← e2]; exact ne_may e1, fun r u hu => ?_⟩
  rw [jmps_const]
  show _ = if c.2.1 = r then jv (chJ c.2.2.1 c.2.2.2) u else 0
  by_cases hq : c.2.1 = r
  · rw [if_pos hq, if_pos hq, nmL_val _ (fun j hj => (hf j hj).2) u hu]
  · rw [if_neg hq, if_neg hq]; rfl
theorem Amt.add {a b : List Ed} {V V' : List Vl → Int → Int} (ha : Amt a V) (hb : Amt b V') (h0 : adE a b = 0) : Amt (adR a b) (fun r u => V r u + V' r u) := by
  have e : adE a b = neE (a ++ b) := by unfold adE; rw [ha.1, hb.1]; rfl
  have hR : adR a b = neR (a ++ b) := by unfold adR; rw [if_pos h0]
  rw [e] at h0
  rw [hR]
  obtain ⟨z1, z2, z3⟩ := ne_zero h0
  have hv : ∀ x ∈ a ++ b, mayR x.1 = true := fun x hx => by
    have := (z1 x hx).1
    unfold badE at this
    cases hm : mayR x.1
    · rw [hm] at this; simp at this
    · rfl
  refine ⟨ne_may h0, fun r u hu => ?_⟩
  have hz : (nmOp (jmps (a ++ b) r)).1 = 0 := op_rows (by decide) hv (each_zero z2).1 r
  have hn : ∀ j ∈ jmps (a ++ b) r, nowJ j = false := fun j hj => (z1 _ (jmps_mem.1 hj)).2
  rw [z3, jmps_each (by decide) hv r, (nm_zero hz).2, nmL_val _ hn u hu, jmps_append, jv_app, ha.2 r u hu, hb.2 r u hu]
/-- The table of messages, as edges. -/
theorem tab_amt (l : List PM) (hl : l.length ≤ 400) : ppE (exP l) = 0 ∧ pkE (ppR (exP l)) = 0 ∧ Amt (pkR (ppR (exP l))) (fun r u => valE r u (runS (0, []) l).2) ∧ (ppR (exP l)).length ≤ 400 := by
  have hm := exP_may l
  have hx := exP_len l
  have h0 := pk_few hm (by omega)
  have hE := (pk_zero h0).2.2.1
  have htab := pk_tab h0
  have hlen := pieces_len h0
  obtain ⟨b1, b2⟩ := pk_back htab (by omega)
  have e : ppR (exP l) = piecesL (grp (pkR (exP l))) := pp_ok h0
  rw [e, b2]
  refine ⟨by rw [pp_eq]; exact h0, b1, ⟨hE, fun r u hu => ?_⟩, by omega⟩
  show _ = valE r u (runS (0, []) l).2
  rw [← exP_val]
  exact (alive_pack h0 r hu).2
/-- The edges of all changes, added up, are those of the table. -/
theorem sums_one (l : List PM) {E : List Ed} {V : List Vl → Int → Int} (hl : l.length ≤ 400) (h : Amt E V) (hV : ∀ r u, V r u = sumV r u (runC (0, []) l)) : pkR (ppR (exP l)) = E :=
  Amt.eq (tab_amt l hl).2.2.1 h fun r u _ => by
    rw [hV, runC_val l ex_okS]
    simp [valE]
end Go.Proofs.YtobmjcehgpmfgaaGreat
set_option linter.unusedVariables false
set_option linter.unusedSimpArgs false
namespace Go.Proofs.YtobmjcehgpmfgaaGreat
open Go.RowKit
attribute [local go_sem] GW.cell GW.frozen In.eq_true In.le_true In.ne In.ne' In.ne_add In.ne_add' In.lt_add Upto.le_true Upto.le_add Upto.lt_add
set_option maxHeartbeats 8000000 in
set_option maxRecDepth 100000 in
theorem refEdgeSame_c {L M : List Ve} {v u : Value} {w : World} (hl : Ew w [] v L) (hm : Ew w [] u M) : Calls Tryz.prog 24 #[v, u] w fun e w' => e = .returned (.bool (decide (eds L = eds M))) ∧ Ext w w' := by
  obtain ⟨A, cap, rfl, hlc, hlm, hat⟩ := ew_form hl
  obtain ⟨B, cap2, rfl, hmc, hmm, hbt⟩ := ew_form hm
  unfold maxLen at hlm hmm
  have hrl := hide hl.2
  have hrm := hide hm.2
  clear hl hm
  replace hat := hide hat
  replace hbt := hide hbt
  obtain ⟨R, hR⟩ : ∃ R, R = decide (eds L = eds M) := ⟨_, rfl⟩
  rw [← hR]
  rw [← eqP_eds] at hR
  by_cases hn : L.length = M.length
  · replace hR := hide hR
    obtain ⟨n, hln⟩ : ∃ n, n = L.length := ⟨_, rfl⟩
    have hmn : n = M.length := by omega
    rw [← hln] at hlc ⊢
    rw [← hmn] at hmc ⊢
    have hlI := hide hln
    have hmI := hide hmn
    clear hn hln hmn
    go_enter Tryz.func24, Tryz.ntmps24
    go_wp2_with fail
    go_loopg [5] n (fun gh i wr => ∃ (k : Nat), i = .int .i64 k ∧ k + gh = n ∧ Hid (R = eqP (fun x y : Ve => decide (x.2 = y.2)) (L.drop k) (M.drop k)) ∧ Ext w wr)
    case atStart => exact ⟨0, rfl, by omega, hR, Ext.refl w⟩
    case round =>
      obtain ⟨k, rfl, hk, hRk, hX⟩ := hrel
      clear hR
      by_cases hlt : k < n
      · obtain ⟨x, hx⟩ : ∃ x, L[k]? = some x := ⟨_, List.getElem?_eq_getElem (by have := hlI.out; omega)⟩
        obtain ⟨y, hy⟩ : ∃ y, M[k]? = some y := ⟨_, List.getElem?_eq_getElem (by have := hmI.out; omega)⟩
        obtain ⟨b, o, rfl, -, hb, c0, c1, c2⟩ := hat.out k x hx
        obtain ⟨b', o', rfl, -, hb', d0, d1, d2⟩ := hbt.out k y hy
        have k0 := cell_later hX c0
        have k1 := cell_later hX c1
        have k2 := cell_later hX c2
        have j0 := cell_later hX d0
        have j1 := cell_later hX d1
        have j2 := cell_later hX d2
        have hbr : b < wr.heap.size := block_lt_of_cell k0
        have hbr' : b' < wr.heap.size := block_lt_of_cell j0
        haveI : In b wr := ⟨hbr⟩
        haveI : In b' wr := ⟨hbr'⟩
        have hrx := Sl.ext (hrl.out x (List.mem_of_getElem? hx)) hX
        have hry := Sl.ext (hrm.out y (List.mem_of_getElem? hy)) hX
        have hR2 := hRk.out
        rw [drop_cons hx, drop_cons hy] at hR2
        obtain ⟨xv, xq, xa, xn⟩ := x
        obtain ⟨yv, yq, ya, yn⟩ := y
        simp only at k0 k1 k2 j0 j1 j2 hrx hry
        have hq := hide (fun w' (hXw : Ext wr w') => refRowSame_c (Sl.ext hrx hXw) (Sl.ext hry hXw))
        obtain ⟨XA, xcap, rfl⟩ := rw_val hrx
        obtain ⟨YA, ycap, rfl⟩ := rw_val hry
        have hyes : Hid ((xq, (xa, xn)) = (yq, (ya, yn)) → R = eqP (fun x y : Ve => decide (x.2 = y.2)) (L.drop (k + 1)) (M.drop (k + 1))) := fun h => by
          rw [hR2]; exact eqP_yes (p := (fun x y : Ve => decide (x.2 = y.2))) (x := (.slice XA xq.length xcap, xq, xa, xn)) (y := (.slice YA yq.length ycap, yq, ya, yn)) (decide_eq_true h)
        have hno : Hid ((xq, (xa, xn)) ≠ (yq, (ya, yn)) → R = false) := fun h => by
          rw [hR2]; exact eqP_no (p := (fun x y : Ve => decide (x.2 = y.2))) (x := (.slice XA xq.length xcap, xq, xa, xn)) (y := (.slice YA yq.length ycap, yq, ya, yn)) (decide_eq_false h)
        clear c0 c1 c2 d0 d1 d2 hat hbt hx hy hlI hmI hRk hrx hry hrl hrm hR2
        by_cases e1 : xa = ya
        · by_cases e2 : xn = yn
          · subst e1; subst e2
            by_cases e3 : xq = yq
            · have hf := hide (hyes.out (by rw [e3]))
              rw [decide_eq_true e3] at hq
              have b1 : (xa != xa) = false := by simp
              have b2 : (xn != xn) = false := by simp
              replace e3 := hide e3
              clear hyes hno
              go_wp2_with fail
              refine wp_region_gw (by kernel_rfl) (by kernel_rfl) ?_
              repeat (go_big_quiet_step ((go_at_call 41; with_reducible exact quiet_gw (hq.out _ (GW.grown _)))))
              refine wpQuiet_nil ?_
              intro g
              go_wp2_with fail
              go_roundg (n - (k + 1))
              case measure => omega
              case rel => exact ⟨k + 1, by go_num, by omega, hf, hX.trans g.grown⟩
            · have hf := hide (hno.out (fun h => e3 (Prod.mk.inj h).1))
              rw [decide_eq_false e3] at hq
              have b1 : (xa != xa) = false := by simp
              have b2 : (xn != xn) = false := by simp
              replace e3 := hide e3
              clear hyes hno
              go_wp2_with fail
              refine wp_region_gw (by kernel_rfl) (by kernel_rfl) ?_
              repeat (go_big_quiet_step ((go_at_call 41; with_reducible exact quiet_gw (hq.out _ (GW.grown _)))))
              refine wpQuiet_nil ?_
              intro g
              go_wp2_with fail
              go_returns
              exact ⟨by rw [hf.out]; rfl, hX.trans g.grown⟩
          · subst e1
            have hf := hide (hno.out (fun h => e2 (Prod.mk.inj (Prod.mk.inj h).2).2))
            have b1 : (xa != xa) = false := by simp
            have b2 : (xn != yn) = true := by simp [e2]
            replace e2 := hide e2
            clear hyes hno hq
            go_wp2_with fail
            refine wp_region_gw (by kernel_rfl) (by kernel_rfl) ?_
            repeat (go_big_quiet_step (fail))
            refine wpQuiet_nil ?_
            intro g
            go_wp2_with fail
            go_returns
            exact ⟨by rw [hf.out]; rfl, hX.trans g.grown⟩
        · have hf := hide (hno.out (fun h => e1 (Prod.mk.inj (Prod.mk.inj h).2).1))
          have b1 : (xa != ya) = true := by simp [e1]
          replace e1 := hide e1
          clear hyes hno hq
          go_wp2_with fail
          refine wp_region_gw (by kernel_rfl) (by kernel_rfl) ?_
          repeat (go_big_quiet_step (fail))
          refine wpQuiet_nil ?_
          intro g
          go_wp2_with fail
          go_returns
          exact ⟨by rw [hf.out]; rfl, hX.trans g.grown⟩
      · have hk' : k = n := by omega
        have hge : (n : Int) ≤ k := by omega
        have hR2 := hRk.out
        rw [List.drop_eq_nil_of_le (by have := hlI.out; omega), List.drop_eq_nil_of_le (by have := hmI.out; omega)] at hR2
        replace hR2 : R = true := hR2
        replace hR2 := hide hR2
        replace hk' := hide hk'
        go_wp2_with fail
        go_returns
        exact ⟨by rw [hR2.out]; rfl, hX⟩
  · have hR2 := hR.trans (eqP_len hn)
    replace hR2 := hide hR2
    have hnI : ¬ (L.length : Int) = M.length := by omega
    clear hR hn
    go_enter Tryz.func24, Tryz.ntmps24
    go_wp2_with fail
    go_returns
    exact ⟨by rw [hR2.out]; rfl, Ext.refl w⟩
end Go.Proofs.YtobmjcehgpmfgaaGreat
namespace Go.Proofs.YtobmjcehgpmfgaaGreat.Facts.foldSums
open Go.ChangeShapes Go.WideShapes Go.ChangeAt Go.RowKit
theorem c1 : (Rows.foldSumsRow.inPlace == Tryz.prog.inPlace 9) = true := by kernel_rfl
theorem c2 : (Rows.foldSumsRow.unfollowed == Tryz.prog.unfollowed 9) = true := by kernel_rfl
theorem c3 : (Rows.foldSumsRow.recurses == Tryz.prog.recurses 9) = true := by kernel_rfl
theorem c4 : (Rows.foldSumsRow.named == Tryz.prog.varsNamed 9) = true := by kernel_rfl
theorem c5 : laidOutB Tryz.prog = true := by kernel_rfl
theorem c6 : mapsRowed Tryz.prog = true := by kernel_rfl
theorem closed : joinedFacts Tryz.prog 9 Tryz.f9 Rows.foldSumsSpec Rows.foldSumsRow = true := by
  unfold joinedFacts
  rw [c1, c2, c3, c4, c5, c6]
  kernel_rfl
end Go.Proofs.YtobmjcehgpmfgaaGreat.Facts.foldSums
