/-
  A helper of ours: no claim of its own. Layer 29 (counts): windows of so many starts; what hangs on one side of a tick (lists alone).
-/
import Derived.Test.YtljkneajdndgjaaGreatCouH
import Derived.Test.YtljkneajdndgjaaGreatHopF1
set_option linter.unusedVariables false
set_option linter.unusedSimpArgs false
namespace Go.Proofs.YtljkneajdndgjaaGreat
open Go.RowKit
/-- The windows of n of so many starts. -/
def cwS (D : List Int) (n : Nat) : List (Int × Int) := (List.range (D.length + 1 - n)).map fun i => (D.getD i 0, D.getD (i + n - 1) 0 + 1)
def cpD (l : List Ed) (t : Int) : List Int := (csT l).drop (sbN (csT l) t)
def cpE (l : List Ed) (n t : Int) : Int := if ssE l n t = 0 then (if 1024 < (cpD l t).length + 1 - n.toNat then 7 else 0) else ssE l n t
def cpT (l : List Ed) (n t : Int) : List Pt := (cwS (cpD l t) n.toNat).map fun s => (s, cfR (grp l) s)
def cpL (l : List Ed) (n t : Int) : List Pt := if cpE l n t = 0 then cpT l n t else []
theorem cwS_len (D : List Int) (n : Nat) : (cwS D n).length = D.length + 1 - n := by simp [cwS]
theorem cpE_ok {l : List Ed} {n t : Int} (h : cpE l n t = 0) : ssE l n t = 0 ∧ (cpD l t).length + 1 - n.toNat ≤ 1024 := by
  unfold cpE at h
  split at h
  case isFalse h2 => exact absurd h h2
  rename_i h1
  split at h
  · exact absurd h (by decide)
  · exact ⟨h1, by omega⟩
/-- Sorted lists, cut at a place. -/
theorem asc_take {D : List Int} (h : D.Pairwise (· < ·)) (T : Int) : D.filter (fun x => decide (x < T)) = D.take (sbN D T) := by
  induction D with
  | nil => rfl
  | cons a D ih =>
    obtain ⟨h1, h2⟩ := List.pairwise_cons.1 h
    unfold sbN at ih ⊢
    rw [List.filter_cons, List.countP_cons]
    by_cases c : a < T
    · rw [if_pos (by simpa using c), if_pos (by simpa using c), List.take_succ_cons, ih h2]
    · have h0 : D.filter (fun x => decide (x < T)) = [] := List.filter_eq_nil_iff.2 fun x hx => by have := h1 x hx; simp; omega
      rw [if_neg (by simpa using c), if_neg (by simpa using c), List.countP_eq_length_filter, h0]
      rfl
theorem asc_drop {D : List Int} (h : D.Pairwise (· < ·)) (T : Int) : D.filter (fun x => decide (T ≤ x)) = D.drop (sbN D T) := by
  induction D with
  | nil => rfl
  | cons a D ih =>
    obtain ⟨h1, h2⟩ := List.pairwise_cons.1 h
    unfold sbN at ih ⊢
    rw [List.filter_cons, List.countP_cons]
    by_cases c : a < T
    · rw [if_neg (by simpa using c), if_pos (by simpa using c), List.drop_succ_cons, ih h2]
    · have h0 : D.countP (fun x => decide (x < T)) = 0 := by rw [List.countP_eq_zero]; intro x hx; have := h1 x hx; simp; omega
      have h3 : D.filter (fun x => decide (T ≤ x)) = D := List.filter_eq_self.2 fun x hx => by have := h1 x hx; simp; omega
      rw [if_pos (by simpa using c), if_neg (by simpa using c), h3, h0]
      rfl
theorem sbN_le (D : List Int) (T : Int) : sbN D T ≤ D.length := List.countP_le_length
theorem asc_at {D : List Int} (h : D.Pairwise (· < ·)) {T : Int} {i : Nat} (hi : i < D.length) : D.getD i 0 < T ↔ i < sbN D T := by
  have e1 := asc_take h T
  have e2 := asc_drop h T
  have hg : D.getD i 0 = D[i] := by rw [List.getD_eq_getElem?_getD, List.getElem?_eq_getElem hi]; rfl
  rw [hg]
  have hl := sbN_le D T
  constructor
  · intro c
    refine Classical.byContradiction fun hn => ?_
    have hm : D[i] ∈ D.drop (sbN D T) := List.mem_drop_iff_getElem.2 ⟨i - sbN D T, by omega, by congr 1; omega⟩
    rw [← e2] at hm
    have := (List.mem_filter.1 hm).2
    simp at this
    omega
  · intro c
    have hm : D[i] ∈ D.take (sbN D T) := List.mem_take_iff_getElem.2 ⟨i, by omega, rfl⟩
    rw [← e1] at hm
    have := (List.mem_filter.1 hm).2
    simpa using this
theorem asc_sb {D : List Int} (h : D.Pairwise (· < ·)) {i : Nat} (hi : i < D.length) : sbN D (D.getD i 0) = i := by
  have hg : D.getD i 0 = D[i] := by rw [List.getD_eq_getElem?_getD, List.getElem?_eq_getElem hi]; rfl
  have hl := sbN_le D (D.getD i 0)
  have h1 : ¬ i < sbN D (D.getD i 0) := fun c => by have := (asc_at h hi).2 c; omega
  refine Nat.le_antisymm (by omega) (Nat.not_lt.1 fun c => ?_)
  have h2 := (asc_at (T := D.getD i 0) h (i := sbN D (D.getD i 0)) (by omega))
  have h3 : ¬ D.getD (sbN D (D.getD i 0)) 0 < D.getD i 0 := fun k => by have := h2.1 k; omega
  have h4 := List.pairwise_iff_getElem.1 h (sbN D (D.getD i 0)) i (by omega) hi c
  rw [← hg] at h4
  have hg2 : D.getD (sbN D (D.getD i 0)) 0 = D[sbN D (D.getD i 0)] := by rw [List.getD_eq_getElem?_getD, List.getElem?_eq_getElem (by omega)]; rfl
  omega
theorem range_lt (M k : Nat) (hk : k ≤ M) : (List.range M).filter (fun i => decide (i < k)) = List.range k := by
  refine asc_unique (R := (· < · : Nat → Nat → Prop)) (fun a h => by omega) (fun a b h1 h2 => by omega) _ _ (List.pairwise_lt_range.sublist List.filter_sublist) List.pairwise_lt_range fun x => ?_
  simp only [List.mem_filter, List.mem_range, decide_eq_true_eq]
  omega
/-- Starts of a table. -/
theorem csT_mem {l : List Ed} (hm : mayE l = true) (x : Int) : x ∈ csT l ↔ ∃ r, ∃ j ∈ incL (jmps l r), j.1 = x := by
  unfold csT csR
  rw [insAll_mem, List.mem_flatMap, grp_eq (mayE_rise hm)]
  constructor
  · rintro ⟨g, hg, hx⟩
    obtain ⟨r, hr, rfl⟩ := List.mem_map.1 hg
    obtain ⟨j, hj, rfl⟩ := List.mem_map.1 hx
    exact ⟨r, j, hj, rfl⟩
  · rintro ⟨r, j, hj, rfl⟩
    have hr : r ∈ rowsL l := by
      rw [mem_rows (mayE_rise hm).1]
      intro e
      rw [e] at hj
      simp [incL] at hj
    exact ⟨(r, jmps l r), List.mem_map.2 ⟨r, hr, rfl⟩, List.mem_map.2 ⟨j, hj, rfl⟩⟩
theorem csT_in {l : List Ed} (hm : mayE l = true) {x : Int} (h : x ∈ csT l) : 0 ≤ x ∧ x < 1125899906842624 := by
  obtain ⟨r, j, hj, rfl⟩ := (csT_mem hm x).1 h
  unfold incL at hj
  obtain ⟨h1, h2⟩ := List.mem_filter.1 hj
  have := mayJ_at (mayJ_jmps hm r) j h1
  simp at h2
  omega
theorem incL_lowF (J : List Jp) (T : Int) : (incL J).filter (fun j => decide (j.1 < T)) = incL (J.filter fun j => decide (j.1 < T)) := by
  unfold incL
  rw [List.filter_filter, List.filter_filter]
  refine List.filter_congr fun j _ => ?_
  exact Bool.and_comm _ _
theorem begS_lowF (I : List Jp) {a b T : Int} (hb : b ≤ T) : begS I a b = begS (I.filter fun j => decide (j.1 < T)) a b := by
  unfold begS
  rw [List.filter_filter]
  congr 2
  refine List.filter_congr fun j _ => ?_
  by_cases h1 : a ≤ j.1 <;> by_cases h2 : j.1 < b <;> simp [h1, h2]
  omega
theorem begS_highF (I : List Jp) {a b T : Int} (ha : T ≤ a) : begS I a b = begS (I.filter fun j => decide (T ≤ j.1)) a b := by
  unfold begS
  rw [List.filter_filter]
  congr 2
  refine List.filter_congr fun j _ => ?_
  by_cases h1 : a ≤ j.1 <;> by_cases h2 : j.1 < b <;> simp [h1, h2]
  omega
theorem incL_low {J K : List Jp} {T : Int} (hJ : mayJ J = true) (hK : mayJ K = true) (h : ∀ u, u < T → jv J u = jv K u) : (incL J).filter (fun j => decide (j.1 < T)) = (incL K).filter (fun j => decide (j.1 < T)) := by
  rw [incL_lowF, incL_lowF, low_eq (mayJ_canon hJ) (mayJ_canon hK) h]
section
variable {l m : List Ed} {T : Int}
theorem csT_low (hl : mayE l = true) (hm : mayE m = true) (h : ∀ r u, u < T → jv (jmps l r) u = jv (jmps m r) u) : (csT l).filter (fun x => decide (x < T)) = (csT m).filter (fun x => decide (x < T)) := by
  refine asc_unique (R := (· < · : Int → Int → Prop)) (fun a h => by omega) (fun a b h1 h2 => by omega) _ _ ((csT_asc l).sublist List.filter_sublist) ((csT_asc m).sublist List.filter_sublist) fun x => ?_
  simp only [List.mem_filter, decide_eq_true_eq]
  have key : ∀ {l m : List Ed}, mayE l = true → mayE m = true → (∀ r u, u < T → jv (jmps l r) u = jv (jmps m r) u) → x ∈ csT l ∧ x < T → x ∈ csT m ∧ x < T := by
    rintro l m hl hm h ⟨h1, h2⟩
    obtain ⟨r, j, hj, rfl⟩ := (csT_mem hl x).1 h1
    have hj2 : j ∈ (incL (jmps l r)).filter (fun j => decide (j.1 < T)) := List.mem_filter.2 ⟨hj, by simpa using h2⟩
    rw [incL_low (mayJ_jmps hl r) (mayJ_jmps hm r) (h r)] at hj2
    exact ⟨(csT_mem hm _).2 ⟨r, j, (List.mem_filter.1 hj2).1, rfl⟩, h2⟩
  exact ⟨key hl hm h, key hm hl fun r u hu => (h r u hu).symm⟩
theorem cfR_rows (hm : mayE l = true) (s : Int × Int) : cfR (grp l) s = ((rowsL l).filter fun r => decide (0 < begN (jmps l r) s.1 s.2)).map fun r => (r, begN (jmps l r) s.1 s.2) := by
  unfold cfR
  rw [grp_eq (mayE_rise hm)]
  unfold byRows
  rw [List.filter_map, List.map_map]
  rfl
theorem begN_row (hm : mayE l = true) {r : List Vl} {a b : Int} (h : 0 < begN (jmps l r) a b) : r ∈ rowsL l := by
  rw [mem_rows (mayE_rise hm).1]
  intro e
  rw [e] at h
  simp [begN, begS, incL] at h
theorem cfR_same (hl : mayE l = true) (hm : mayE m = true) {s : Int × Int} (h : ∀ r, begN (jmps l r) s.1 s.2 = begN (jmps m r) s.1 s.2) : cfR (grp l) s = cfR (grp m) s := by
  rw [cfR_rows hl, cfR_rows hm]
  have e : ((rowsL l).filter fun r => decide (0 < begN (jmps l r) s.1 s.2)) = (rowsL m).filter fun r => decide (0 < begN (jmps m r) s.1 s.2) := by
    refine asc_unique rlt_irr rlt_asym _ _ ((rowsL_ok (mayE_rise hl).1).1.sublist List.filter_sublist) ((rowsL_ok (mayE_rise hm).1).1.sublist List.filter_sublist) fun r => ?_
    simp only [List.mem_filter, decide_eq_true_eq]
    exact ⟨fun ⟨_, b⟩ => ⟨begN_row hm (by rw [← h r]; exact b), by rw [← h r]; exact b⟩, fun ⟨_, b⟩ => ⟨begN_row hl (by rw [h r]; exact b), by rw [h r]; exact b⟩⟩
  rw [e]
  exact List.map_congr_left fun r _ => by rw [h r]
theorem cfR_low (hl : mayE l = true) (hm : mayE m = true) (h : ∀ r u, u < T → jv (jmps l r) u = jv (jmps m r) u) {s : Int × Int} (hs : s.2 ≤ T) : cfR (grp l) s = cfR (grp m) s :=
  cfR_same hl hm fun r => by
    unfold begN
    rw [begS_lowF _ hs, begS_lowF (incL (jmps m r)) hs, incL_low (mayJ_jmps hl r) (mayJ_jmps hm r) (h r)]
end
/-- The windows that begin ahead of the first open one. -/
theorem cwS_first {D : List Int} (hD : D.Pairwise (· < ·)) {n : Nat} (hn : 1 ≤ n) {t a : Int} (ha : a = if sbN D t - (n - 1) < sbN D t then D.getD (sbN D t - (n - 1)) 0 else t) : (cwS D n).filter (fun s => decide (s.1 < a)) = cwS (D.take (sbN D t)) n := by
  have hl := sbN_le D t
  have ht : (D.take (sbN D t)).length = sbN D t := by rw [List.length_take]; omega
  unfold cwS
  rw [List.filter_map, ht]
  have e : (List.range (D.length + 1 - n)).filter ((fun s : Int × Int => decide (s.1 < a)) ∘ fun i => (D.getD i 0, D.getD (i + n - 1) 0 + 1)) = List.range (sbN D t + 1 - n) := by
    rw [← range_lt (D.length + 1 - n) (sbN D t + 1 - n) (by omega)]
    refine List.filter_congr fun i hi => ?_
    have hi := List.mem_range.1 hi
    have h1 : D.getD i 0 < a ↔ i < sbN D t + 1 - n := by
      rw [ha]
      split
      · rename_i c
        rw [asc_at hD (by omega), asc_sb hD (by omega)]
        omega
      · rw [asc_at hD (by omega)]
        omega
    exact decide_eq_decide.2 h1
  rw [e]
  refine List.map_congr_left fun i hi => ?_
  have hi := List.mem_range.1 hi
  have g : ∀ k, k < sbN D t → D.getD k 0 = (D.take (sbN D t)).getD k 0 := fun k hk => by
    rw [List.getD_eq_getElem?_getD, List.getD_eq_getElem?_getD, List.getElem?_take, if_pos hk]
  rw [g i (by omega), g (i + n - 1) (by omega)]
theorem cwS_to {D : List Int} {n : Nat} (hn : 1 ≤ n) {t : Int} (h : ∀ x ∈ D, x < t) : ∀ s ∈ cwS D n, s.2 ≤ t := by
  intro s hs
  obtain ⟨i, hi, rfl⟩ := List.mem_map.1 hs
  have hi := List.mem_range.1 hi
  have h1 := h (D[i + n - 1]'(by omega)) (List.getElem_mem _)
  have hg : D.getD (i + n - 1) 0 = D[i + n - 1]'(by omega) := by rw [List.getD_eq_getElem?_getD, List.getElem?_eq_getElem (by omega)]; rfl
  simp only
  omega
/-- Open, where nothing is wrong. -/
theorem coV_of {l : List Ed} {n t : Int} (h : ssE l n t = 0) (ht : t < 1125899906842624) : coV l n t = if sbN (csT l) t - (n.toNat - 1) < sbN (csT l) t then (csT l).getD (sbN (csT l) t - (n.toNat - 1)) 0 else t := by
  have := (ssE_ok h).1
  unfold coV coI
  rw [if_pos h, if_neg (by omega), show (n - 1).toNat = n.toNat - 1 by omega]
theorem coV_le {l : List Ed} {n t : Int} (h : ssE l n t = 0) (ht : t < 1125899906842624) : 0 ≤ coV l n t ∧ coV l n t ≤ t := by
  obtain ⟨-, ⟨hm, -⟩, h0, -⟩ := ssE_ok h
  have hl := sbN_le (csT l) t
  rw [coV_of h ht]
  split
  · rename_i c
    have h1 := (asc_at (T := t) (csT_asc l) (i := sbN (csT l) t - (n.toNat - 1)) (by omega)).2 (by omega)
    have hg : (csT l).getD (sbN (csT l) t - (n.toNat - 1)) 0 = (csT l)[sbN (csT l) t - (n.toNat - 1)]'(by omega) := by rw [List.getD_eq_getElem?_getD, List.getElem?_eq_getElem (by omega)]; rfl
    have h2 := csT_in hm (x := (csT l)[sbN (csT l) t - (n.toNat - 1)]'(by omega)) (List.getElem_mem _)
    omega
  · omega
theorem sbN_zero {l : List Ed} (hm : mayE l = true) : sbN (csT l) 0 = 0 := by
  unfold sbN
  rw [List.countP_eq_zero]
  intro x hx
  have := (csT_in hm hx).1
  simp; omega
theorem cpD_zero {l : List Ed} (hm : mayE l = true) : cpD l 0 = csT l := by unfold cpD; rw [sbN_zero hm]; rfl
section
variable {l m : List Ed} {n t : Int}
theorem csT_take (hl : mayE l = true) (hm : mayE m = true) (h : ∀ r u, u < t → jv (jmps l r) u = jv (jmps m r) u) : sbN (csT l) t = sbN (csT m) t ∧ (csT l).take (sbN (csT l) t) = (csT m).take (sbN (csT m) t) := by
  have e := csT_low hl hm h
  rw [asc_take (csT_asc l), asc_take (csT_asc m)] at e
  refine ⟨?_, e⟩
  have := congrArg List.length e
  rw [List.length_take, List.length_take] at this
  have h1 := sbN_le (csT l) t
  have h2 := sbN_le (csT m) t
  omega
theorem getD_take {D : List Int} {k c : Nat} (h : k < c) : D.getD k 0 = (D.take c).getD k 0 := by
  rw [List.getD_eq_getElem?_getD, List.getD_eq_getElem?_getD, List.getElem?_take, if_pos h]
theorem coV_low (h1 : ssE l n t = 0) (h2 : ssE m n t = 0) (ht : t < 1125899906842624) (h : ∀ r u, u < t → jv (jmps l r) u = jv (jmps m r) u) : coV l n t = coV m n t := by
  obtain ⟨e1, e2⟩ := csT_take (ssE_ok h1).2.1.1 (ssE_ok h2).2.1.1 h
  rw [coV_of h1 ht, coV_of h2 ht, ← e1]
  split
  · rename_i c
    rw [getD_take c, e2, ← e1, ← getD_take c]
  · rfl
/-- The windows that begin ahead of the first open one are closed, and the same. -/
theorem cpT_low (h1 : ssE l n t = 0) (h2 : ssE m n t = 0) (ht : t < 1125899906842624) (h : ∀ r u, u < t → jv (jmps l r) u = jv (jmps m r) u) : ((cpT l n 0).filter fun p => decide (p.1.1 < coV l n t)) = ((cpT m n 0).filter fun p => decide (p.1.1 < coV m n t)) ∧ ∀ p ∈ (cpT l n 0).filter (fun p => decide (p.1.1 < coV l n t)), p.1.2 ≤ t := by
  obtain ⟨⟨n1, n2⟩, ⟨hl, -⟩, -⟩ := ssE_ok h1
  obtain ⟨-, ⟨hm, -⟩, -⟩ := ssE_ok h2
  obtain ⟨e1, e2⟩ := csT_take hl hm h
  have hb : ∀ s ∈ cwS ((csT l).take (sbN (csT l) t)) n.toNat, s.2 ≤ t := cwS_to (by omega) fun x hx => by
    rw [← asc_take (csT_asc l)] at hx
    simpa using (List.mem_filter.1 hx).2
  have key : ∀ {l : List Ed}, mayE l = true → ssE l n t = 0 → ((cpT l n 0).filter fun p => decide (p.1.1 < coV l n t)) = (cwS ((csT l).take (sbN (csT l) t)) n.toNat).map fun s => (s, cfR (grp l) s) := by
    intro l hl h1
    unfold cpT
    rw [List.filter_map, cpD_zero hl]
    congr 1
    exact cwS_first (csT_asc l) (by omega) (coV_of h1 ht)
  rw [key hl h1, key hm h2, ← e2]
  refine ⟨List.map_congr_left fun s hs => by rw [cfR_low hl hm h (hb s hs)], fun p hp => ?_⟩
  obtain ⟨s, hs, rfl⟩ := List.mem_map.1 hp
  exact hb s hs
end
/-- What begins in what is there from a tick on. -/
theorem incL_rest {f : List Jp} {T : Int} (h0 : 0 ≤ T) (hT : T < 1125899906842624) (h : reE f T = 0) : incL (reR f T) = (incL f).filter fun j => decide (T ≤ j.1) := by
  obtain ⟨hf, -⟩ := reE_zero.1 h
  have ha := (mayJ_canon hf).1
  unfold reR
  rw [if_pos h, ← rest_code hf T hT]
  have e : incL (reC f T) = incL (cutR f T) := by
    unfold reC
    split
    · unfold incL; rw [List.filter_cons, if_neg (by simp)]
    · rfl
  have e1 : (incL f).filter (fun j => decide (T ≤ j.1)) = incL (f.filter fun j => decide (T ≤ j.1)) := by
    unfold incL
    rw [List.filter_filter, List.filter_filter]
    exact List.filter_congr fun j _ => Bool.and_comm _ _
  have e2 : (f.filter fun j => decide (T ≤ j.1)) = cutR f T := by
    conv => lhs; rw [← cut_eq f T]
    rw [List.filter_append, List.filter_eq_nil_iff.2 (fun j hj => by have := cutL_lt f T j hj; simp; omega), List.filter_eq_self.2 (fun j hj => by have := cutR_ge ha T j hj; simpa using this), List.nil_append]
  rw [e, e1, e2]
section
variable {l : List Ed} {n t T : Int}
theorem rest_inc (h0 : 0 ≤ T) (hT : T < 1125899906842624) (h : mpE (reOp T) l = 0) (r : List Vl) : incL (jmps (mpR (reOp T) l) r) = (incL (jmps l r)).filter fun j => decide (T ≤ j.1) := by
  have n1 : (reOp T []).1 = 0 := by rw [reOp_nil]
  have n2 : (reOp T []).2 = [] := by rw [reOp_nil]
  obtain ⟨a, b, c⟩ := mp_zero h
  have hv := (mayE_rise a).1
  have e0 : reE (jmps l r) T = 0 := op_rows n1 hv b r
  rw [c, jmps_each n2 hv]
  exact incL_rest h0 hT e0
theorem rest_csT (h0 : 0 ≤ T) (hT : T < 1125899906842624) (h : mpE (reOp T) l = 0) : csT (mpR (reOp T) l) = (csT l).drop (sbN (csT l) T) := by
  have hm := (mp_zero h).1
  have hx := (rest_high h0 hT h).1
  rw [← asc_drop (csT_asc l)]
  refine asc_unique (R := (· < · : Int → Int → Prop)) (fun a h => by omega) (fun a b h1 h2 => by omega) _ _ (csT_asc _) ((csT_asc l).sublist List.filter_sublist) fun x => ?_
  rw [List.mem_filter, csT_mem hx, csT_mem hm]
  simp only [decide_eq_true_eq]
  constructor
  · rintro ⟨r, j, hj, rfl⟩
    rw [rest_inc h0 hT h] at hj
    obtain ⟨h1, h2⟩ := List.mem_filter.1 hj
    exact ⟨⟨r, j, h1, rfl⟩, by simpa using h2⟩
  · rintro ⟨⟨r, j, hj, rfl⟩, h2⟩
    exact ⟨r, j, by rw [rest_inc h0 hT h]; exact List.mem_filter.2 ⟨hj, by simpa using h2⟩, rfl⟩
theorem rest_ssE (h0 : 0 ≤ T) (hT : T < 1125899906842624) (h : mpE (reOp T) l = 0) {u : Int} (h1 : ssE l n u = 0) : ssE (mpR (reOp T) l) n u = 0 := by
  obtain ⟨a, ⟨b1, b2⟩, c⟩ := ssE_ok h1
  obtain ⟨d1, d2, -⟩ := rest_high h0 hT h
  unfold ssE
  rw [if_pos a, if_pos (show csE _ = 0 by unfold csE; rw [if_pos d1, if_pos (d2 b2)]), if_pos c]
theorem sbN_drop_lo {D : List Int} (hD : D.Pairwise (· < ·)) {a u : Int} (h : u ≤ a) : sbN (D.drop (sbN D a)) u = 0 := by
  rw [← asc_drop hD]
  unfold sbN
  rw [List.countP_eq_zero]
  intro x hx
  have := (List.mem_filter.1 hx).2
  simp at this ⊢
  omega
theorem sbN_drop {D : List Int} (hD : D.Pairwise (· < ·)) {i : Nat} {t : Int} (hi : i ≤ sbN D t) : sbN (D.drop i) t = sbN D t - i := by
  have e1 : sbN D t = sbN (D.take i) t + sbN (D.drop i) t := by
    conv => lhs; rw [← List.take_append_drop i D]
    unfold sbN
    rw [List.countP_append]
  have hl := sbN_le D t
  have e2 : sbN (D.take i) t = i := by
    unfold sbN
    rw [List.countP_eq_length.2, List.length_take]
    · omega
    · intro x hx
      obtain ⟨k, hk, rfl⟩ := List.mem_take_iff_getElem.1 hx
      have h1 := (asc_at (T := t) hD (i := k) (by omega)).2 (by omega)
      rw [List.getD_eq_getElem?_getD, List.getElem?_eq_getElem (by omega)] at h1
      simpa using h1
  omega
/-- What is forgotten ahead of the first open window. -/
theorem rest_coV (h1 : ssE l n t = 0) (hT : T = coV l n t) (hF : T < 1125899906842624) (ht : t < 1125899906842624) (h : mpE (reOp T) l = 0) : coV (mpR (reOp T) l) n t = T := by
  obtain ⟨c0, c1⟩ := coV_le h1 ht
  rw [← hT] at c0 c1
  have hD := csT_asc l
  have hl := sbN_le (csT l) t
  rw [coV_of (rest_ssE c0 hF h h1) ht, rest_csT c0 hF h]
  have e := coV_of h1 ht
  rw [← hT] at e
  by_cases c : sbN (csT l) t - (n.toNat - 1) < sbN (csT l) t
  · rw [if_pos c] at e
    have e2 : sbN (csT l) T = sbN (csT l) t - (n.toNat - 1) := by rw [e]; exact asc_sb hD (by omega)
    rw [e2, sbN_drop hD (by omega), if_pos (by omega), show sbN (csT l) t - (sbN (csT l) t - (n.toNat - 1)) - (n.toNat - 1) = 0 by omega]
    rw [List.getD_eq_getElem?_getD, List.getElem?_drop, Nat.add_zero, ← List.getD_eq_getElem?_getD]
    exact e.symm
  · rw [if_neg c] at e
    rw [sbN_drop_lo hD (by omega), if_neg (by omega)]
    exact e.symm
theorem rest_cp (h0 : 0 ≤ T) (hF : T < 1125899906842624) (h : mpE (reOp T) l = 0) (hn : ssE l n T = 0) : cpE l n T = cpE (mpR (reOp T) l) n T ∧ cpL l n T = cpL (mpR (reOp T) l) n T := by
  obtain ⟨-, ⟨hm, -⟩, -⟩ := ssE_ok hn
  have hx := (rest_high h0 hF h).1
  have hs := rest_ssE h0 hF h hn
  have e1 : cpD (mpR (reOp T) l) T = cpD l T := by
    unfold cpD
    rw [rest_csT h0 hF h, sbN_drop_lo (csT_asc l) (Int.le_refl _)]
    rfl
  have e2 : cpE l n T = cpE (mpR (reOp T) l) n T := by unfold cpE; rw [if_pos hn, if_pos hs, e1]
  refine ⟨e2, ?_⟩
  unfold cpL
  rw [e2]
  split
  · unfold cpT
    rw [e1]
    refine List.map_congr_left fun s hs => ?_
    refine congrArg _ (cfR_same hm hx fun r => ?_)
    unfold begN
    rw [rest_inc h0 hF h]
    refine begS_highF _ ?_
    obtain ⟨i, hi, rfl⟩ := List.mem_map.1 hs
    have hi := List.mem_range.1 hi
    have n1 := (ssE_ok hn).1.1
    have hil : i < (cpD l T).length := by omega
    have hmem : (cpD l T).getD i 0 ∈ cpD l T := by rw [List.getD_eq_getElem?_getD, List.getElem?_eq_getElem hil]; exact List.getElem_mem _
    have hall : ∀ z ∈ cpD l T, T ≤ z := fun z hz => by
      unfold cpD at hz
      rw [← asc_drop (csT_asc l)] at hz
      simpa using (List.mem_filter.1 hz).2
    exact hall _ hmem
  · rfl
end
end Go.Proofs.YtljkneajdndgjaaGreat
