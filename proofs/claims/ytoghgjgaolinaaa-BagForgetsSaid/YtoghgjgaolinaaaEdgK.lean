/-
  A helper of ours: no claim of its own. Layer 10 (edge): edges told by the jumps of each row; what is made of each row's jumps; two sides; what is added and taken away. No walk in it.
-/
import Derived.Test.YtoghgjgaolinaaaEdgH
set_option linter.unusedVariables false
set_option linter.unusedSimpArgs false
namespace Go.Proofs.Ytoghgjgaolinaaa
open Go.RowKit
theorem grp_back : ∀ l : List Ed, evL (fun f => (0, f)) (grp l) = l
  | [] => rfl
  | e :: r => by
    have ih := grp_back r
    unfold grp
    cases h : grp r with
    | nil =>
      rw [h] at ih
      have hr : r = [] := by rw [← ih]; rfl
      subst hr
      rfl
    | cons g t =>
      obtain ⟨q, f⟩ := g
      rw [h] at ih
      simp only [evL, List.flatMap_cons] at ih ⊢
      by_cases hq : q = e.1
      · simp only [if_pos hq, List.flatMap_cons, List.map_cons, List.cons_append]
        rw [ih, hq]
      · simp only [if_neg hq, List.flatMap_cons, List.map_cons, List.map_nil, List.cons_append, List.nil_append]
        rw [ih]
theorem mem_rows {l : List Ed} (hv : ∀ e ∈ l, mayR e.1 = true) (r : List Vl) : r ∈ rowsL l ↔ jmps l r ≠ [] := by
  rw [(rowsL_ok hv).2 r]
  constructor
  · rintro ⟨⟨q, j⟩, he, rfl⟩ h
    have := jmps_mem.2 he
    rw [h] at this; cases this
  · intro h
    obtain ⟨j, hj⟩ := List.exists_mem_of_ne_nil _ h
    exact ⟨_, jmps_mem.1 hj, rfl⟩
/-- Edges whose rows do not fall are told by the jumps of each row. -/
theorem ed_ext {a b : List Ed} (ha : Rise a) (hb : Rise b) (h : ∀ r, jmps a r = jmps b r) : a = b := by
  have hr : rowsL a = rowsL b := asc_unique rlt_irr rlt_asym _ _ (rowsL_ok ha.1).1 (rowsL_ok hb.1).1 fun r => by rw [mem_rows ha.1, mem_rows hb.1, h]
  have hf : (fun r => (r, jmps a r)) = fun r => (r, jmps b r) := funext fun r => by rw [h]
  rw [← grp_back a, ← grp_back b, grp_eq ha, grp_eq hb]
  unfold byRows
  rw [hr, hf]
theorem jmps_const (q : List Vl) (f : List Jp) (r : List Vl) : jmps (f.map fun j => (q, j)) r = if q = r then f else [] := by
  induction f with
  | nil => simp [jmps]
  | cons j f ih =>
    rw [List.map_cons, jmps_cons, ih]
    by_cases h : q = r
    · simp only [if_pos h]
    · simp only [if_neg h]
theorem jmps_rows (op : List Jp → Int × List Jp) (F : List Vl → List Jp) (r : List Vl) : ∀ rows : List (List Vl), rows.Pairwise rlt → jmps (evL op (rows.map fun q => (q, F q))) r = if hasR rows r then (op (F r)).2 else []
  | [], _ => rfl
  | q :: rows, h => by
    have h' := List.pairwise_cons.1 h
    have ih := jmps_rows op F r rows h'.2
    have e : evL op ((q :: rows).map fun q => (q, F q)) = ((op (F q)).2.map fun j => (q, j)) ++ evL op (rows.map fun q => (q, F q)) := by simp [evL]
    rw [e, jmps_append, jmps_const, ih]
    by_cases hq : q = r
    · subst hq
      have hno : hasR rows q = false := by
        rw [← Bool.not_eq_true, hasR_iff]
        exact fun hm => rlt_irr q (h'.1 q hm)
      have hyes : hasR (q :: rows) q = true := hasR_iff.2 (by simp)
      rw [hno, hyes]; simp
    · have e2 : hasR (q :: rows) r = hasR rows r := by simp [hasR, hq]
      rw [if_neg hq, e2, List.nil_append]
/-- The jumps of each row, of what is made row by row. -/
theorem jmps_each {op : List Jp → Int × List Jp} (h0 : (op []).2 = []) {l : List Ed} (hv : ∀ e ∈ l, mayR e.1 = true) (r : List Vl) : jmps (evL op (byRows l)) r = (op (jmps l r)).2 := by
  unfold byRows
  rw [jmps_rows op (fun q => jmps l q) r _ (rowsL_ok hv).1]
  by_cases h : hasR (rowsL l) r = true
  · rw [if_pos h]
  · rw [if_neg h]
    have : jmps l r = [] := by
      rw [hasR_iff, mem_rows hv] at h
      exact Decidable.not_not.1 h
    rw [this, h0]
theorem evE_all {op : List Jp → Int × List Jp} : ∀ {G : List Gp}, evE op G = 0 → ∀ g ∈ G, (op g.2).1 = 0
  | [], _, g, hg => by cases hg
  | x :: t, h, g, hg => by
    rw [evE] at h
    by_cases hx : (op x.2).1 = 0
    · rw [if_pos hx] at h
      rcases List.mem_cons.1 hg with rfl | hg
      · exact hx
      · exact evE_all h g hg
    · rw [if_neg hx] at h; exact absurd h hx
theorem each_zero {op : List Jp → Int × List Jp} {G : List Gp} (h : eachE op G = 0) : evE op G = 0 ∧ (evL op G).length ≤ 4096 ∧ eachR op G = evL op G := by
  have h' := h
  unfold eachE at h
  split at h
  · rename_i he
    split at h
    · cases h
    · rename_i hl
      exact ⟨he, by omega, by unfold eachR; rw [if_pos h']⟩
  · rename_i he; exact absurd h he
theorem op_rows {op : List Jp → Int × List Jp} (h0 : (op []).1 = 0) {l : List Ed} (hv : ∀ e ∈ l, mayR e.1 = true) (h : evE op (byRows l) = 0) (r : List Vl) : (op (jmps l r)).1 = 0 := by
  by_cases hr : r ∈ rowsL l
  · exact evE_all h (r, jmps l r) (List.mem_map.2 ⟨r, hr, rfl⟩)
  · rw [mem_rows hv] at hr
    rw [Decidable.not_not.1 hr, h0]
theorem mayJ_rows {l : List Ed} (h : mayE l = true) (r : List Vl) : mayJ (jmps l r) = true := by
  obtain ⟨-, h2, h3⟩ := mayE_iff.1 h
  by_cases hr : r ∈ rowsL l
  · exact h3 (r, jmps l r) (by rw [grp_eq h2]; exact List.mem_map.2 ⟨r, hr, rfl⟩)
  · rw [mem_rows h2.1] at hr
    rw [Decidable.not_not.1 hr]; exact mayJ_nil
/-- What is made row by row has its rows in order. -/
theorem rise_rows (op : List Jp → Int × List Jp) (F : List Vl → List Jp) : ∀ rows : List (List Vl), rows.Pairwise rlt → (∀ r ∈ rows, mayR r = true) → Rise (evL op (rows.map fun q => (q, F q)))
  | [], _, _ => ⟨by simp [evL], List.Pairwise.nil⟩
  | q :: rows, h, hv => by
    have h' := List.pairwise_cons.1 h
    obtain ⟨i1, i2⟩ := rise_rows op F rows h'.2 fun r hr => hv r (by simp [hr])
    have e : evL op ((q :: rows).map fun q => (q, F q)) = ((op (F q)).2.map fun j => (q, j)) ++ evL op (rows.map fun q => (q, F q)) := by simp [evL]
    rw [e]
    have hq := hv q (by simp)
    refine ⟨fun x hx => ?_, ?_⟩
    · rcases List.mem_append.1 hx with hx | hx
      · obtain ⟨j, -, rfl⟩ := List.mem_map.1 hx; exact hq
      · exact i1 x hx
    · rw [List.pairwise_append]
      refine ⟨?_, i2, fun x hx y hy => ?_⟩
      · rw [List.pairwise_map]
        refine List.Pairwise.imp (R := fun _ _ => True) (fun _ => by rw [cmpT_self hq]; exact Int.le_refl 0) ?_
        exact List.pairwise_of_forall (fun _ _ => trivial)
      · obtain ⟨j, -, rfl⟩ := List.mem_map.1 hx
        simp only [evL, List.mem_flatMap, List.mem_map] at hy
        obtain ⟨g, ⟨r, hr, rfl⟩, j', -, rfl⟩ := hy
        have := (h'.1 r hr).2
        simp only
        omega
theorem rise_each (op : List Jp → Int × List Jp) {l : List Ed} (hv : ∀ e ∈ l, mayR e.1 = true) : Rise (evL op (byRows l)) :=
  rise_rows op _ _ (rowsL_ok hv).1 fun r hr => by obtain ⟨e, he, rfl⟩ := ((rowsL_ok hv).2 r).1 hr; exact hv e he
/-- What is made row by row is in form. -/
theorem may_each {op : List Jp → Int × List Jp} (h0 : (op []).2 = []) {l : List Ed} (hv : ∀ e ∈ l, mayR e.1 = true) (hl : (evL op (byRows l)).length ≤ 4096) (hj : ∀ r, mayJ (op (jmps l r)).2 = true) : mayE (evL op (byRows l)) = true := by
  have hr := rise_each op hv
  rw [mayE_iff]
  refine ⟨hl, hr, fun g hg => ?_⟩
  rw [((grp_rows hr).2.2 g hg).1, jmps_each h0 hv]
  exact hj g.1
theorem tell_zero (v : Int → Int) (h : ∀ p, v p = 0) : ∀ ps : List Int, tell v ps 0 = []
  | [] => rfl
  | p :: r => by rw [tell, if_pos (h p), h p]; exact tell_zero v h r
theorem ahOp_nil (t : Int) : ahOp t [] = (0, []) := by
  have e : ahL [] t = [] := tell_zero _ (fun p => by unfold ahV; split <;> rfl) _
  have e1 : ahE [] t = 0 := ahE_zero.2 ⟨mayJ_nil, by rw [e]; exact mayJ_nil⟩
  unfold ahOp ahR
  rw [e1, if_pos rfl, e]
theorem reOp_nil (t : Int) : reOp t [] = (0, []) := by
  have e : reL [] t = [] := by
    unfold reL
    split
    · rfl
    · exact tell_zero _ (fun p => rfl) _
  have e1 : reE [] t = 0 := reE_zero.2 ⟨mayJ_nil, by rw [e]; exact mayJ_nil⟩
  unfold reOp reR
  rw [e1, if_pos rfl, e]
/-- Two functions that agree on both sides are one. -/
theorem step_sides {f g : List Jp} {t : Int} (h0 : 0 ≤ t) (hF : t < 1125899906842624) (ea : ahE f t = 0) (eb : ahE g t = 0) (fa : reE f t = 0) (fb : reE g t = 0) (h1 : ahR f t = ahR g t) (h2 : reR f t = reR g t) : f = g := by
  have hf := (ahE_zero.1 ea).1
  have hg := (ahE_zero.1 eb).1
  refine one_form (mayJ_canon hf) (mayJ_canon hg) (fun j hj => (mayJ_at hf j hj).2) (fun j hj => (mayJ_at hg j hj).2) fun p hp => ?_
  have e : atV f p = atV g p := by
    by_cases hpt : p < t
    · rw [← ah_left ea hpt, ← ah_left eb hpt, h1]
    · rw [← re_right fa (by omega) h0 hF, ← re_right fb (by omega) h0 hF, h2]
  unfold atV at e
  rwa [hf, hg] at e
theorem mp_zero {op : List Jp → Int × List Jp} {l : List Ed} (h : mpE op l = 0) : mayE l = true ∧ evE op (byRows l) = 0 ∧ mpR op l = evL op (byRows l) := by
  unfold mpE at h
  by_cases hm : mayE l = true
  · rw [if_pos hm] at h
    obtain ⟨h1, -, h3⟩ := each_zero h
    rw [grp_eq (mayE_rise hm)] at h1 h3
    exact ⟨hm, h1, by unfold mpR; rw [if_pos hm, grp_eq (mayE_rise hm), h3]⟩
  · rw [if_neg hm] at h; cases h
theorem sides_one {a b : List Ed} {t : Int} (h0 : 0 ≤ t) (hF : t < 1125899906842624) (ea : mpE (ahOp t) a = 0) (eb : mpE (ahOp t) b = 0) (fa : mpE (reOp t) a = 0) (fb : mpE (reOp t) b = 0)
    (h1 : mpR (ahOp t) a = mpR (ahOp t) b) (h2 : mpR (reOp t) a = mpR (reOp t) b) : a = b := by
  obtain ⟨ma, ea1, ea2⟩ := mp_zero ea
  obtain ⟨mb, eb1, eb2⟩ := mp_zero eb
  obtain ⟨-, fa1, fa2⟩ := mp_zero fa
  obtain ⟨-, fb1, fb2⟩ := mp_zero fb
  have va := (mayE_rise ma).1
  have vb := (mayE_rise mb).1
  have n1 : (ahOp t []).1 = 0 := by rw [ahOp_nil]
  have n2 : (ahOp t []).2 = [] := by rw [ahOp_nil]
  have n3 : (reOp t []).1 = 0 := by rw [reOp_nil]
  have n4 : (reOp t []).2 = [] := by rw [reOp_nil]
  refine ed_ext (mayE_rise ma) (mayE_rise mb) fun r => ?_
  have k1 := congrArg (fun l => jmps l r) h1
  have k2 := congrArg (fun l => jmps l r) h2
  replace k1 : jmps (mpR (ahOp t) a) r = jmps (mpR (ahOp t) b) r := k1
  replace k2 : jmps (mpR (reOp t) a) r = jmps (mpR (reOp t) b) r := k2
  rw [ea2, eb2, jmps_each n2 va, jmps_each n2 vb] at k1
  rw [fa2, fb2, jmps_each n4 va, jmps_each n4 vb] at k2
  exact step_sides h0 hF (op_rows n1 va ea1 r) (op_rows n1 vb eb1 r) (op_rows n3 va fa1 r) (op_rows n3 vb fb1 r) k1 k2
/-- The order of two does not matter. -/
theorem ne_perm {l m : List Ed} (h : l.Perm m) : neE l = neE m ∧ neR l = neR m := by
  have e : neE l = neE m ∧ (l.any badE = false → eachR nmOp (byRows l) = eachR nmOp (byRows m)) := by
    unfold neE
    rw [any_perm h badE, any_perm h (fun e => nowJ e.2)]
    cases hb : m.any badE
    · have hv : ∀ e ∈ l, mayR e.1 = true := fun e he => by
        have := List.any_eq_false.1 hb e (h.mem_iff.1 he)
        unfold badE at this
        simp at this
        exact this.1
      obtain ⟨h1, h2⟩ := each_congr (op := nmOp) (rowsL_perm h hv) fun r => nmOp_perm (jmps_perm h r)
      exact ⟨by rw [h1], fun _ => h2⟩
    · exact ⟨by simp, fun k => by cases k⟩
  refine ⟨e.1, ?_⟩
  unfold neR
  rw [← e.1]
  by_cases h0 : neE l = 0
  · rw [if_pos h0, if_pos h0]
    refine e.2 ?_
    unfold neE at h0
    cases hb : l.any badE
    · rfl
    · rw [hb, if_pos rfl] at h0; cases h0
  · rw [if_neg h0, if_neg h0]
theorem ad_comm (a b : List Ed) : adE a b = adE b a ∧ adR a b = adR b a := by
  have h := ne_perm (List.perm_append_comm (l₁ := a) (l₂ := b))
  have e : adE a b = adE b a := by unfold adE; rw [Bool.and_comm, h.1]
  refine ⟨e, ?_⟩
  unfold adR
  rw [← e, h.2]
theorem ne_ok {l : List Ed} (h : ∀ e ∈ l, badE e = false ∧ nowJ e.2 = false) : neE l = eachE nmOp (byRows l) := by
  unfold neE
  have h1 : l.any badE = false := List.any_eq_false.2 fun e he => by rw [(h e he).1]; decide
  have h2 : (l.any fun e => nowJ e.2) = false := List.any_eq_false.2 fun e he => by rw [(h e he).2]; decide
  rw [h1, h2, if_neg (by decide), if_neg (by decide)]
theorem ne_zero {l : List Ed} (h : neE l = 0) : (∀ e ∈ l, badE e = false ∧ nowJ e.2 = false) ∧ eachE nmOp (byRows l) = 0 ∧ neR l = evL nmOp (byRows l) := by
  have h' := h
  unfold neE at h
  cases h1 : l.any badE
  · cases h2 : l.any fun e => nowJ e.2
    · rw [h1, h2, if_neg (by decide), if_neg (by decide)] at h
      refine ⟨fun e he => ⟨by simpa using List.any_eq_false.1 h1 e he, by simpa using List.any_eq_false.1 h2 e he⟩, h, ?_⟩
      unfold neR
      rw [if_pos h', (each_zero h).2.2]
    · rw [h1, h2, if_neg (by decide), if_pos rfl] at h; cases h
  · rw [h1, if_pos rfl] at h; cases h
theorem nmOp_nil : nmOp [] = (0, []) := by decide
theorem okJ_fine {j : Jp} (h : okJ j = true) : tooJ j = false ∧ nowJ j = false := by
  have := okJ_iff.1 h
  unfold tooJ nowJ
  rw [decide_eq_false_iff_not, decide_eq_false_iff_not]
  omega
theorem may_fine {l : List Ed} (h : mayE l = true) : ∀ e ∈ l, badE e = false ∧ nowJ e.2 = false := fun e he => by
  obtain ⟨-, h2, -, -⟩ := mayE_doc.1 h
  obtain ⟨h3, h4⟩ := h2 e he
  obtain ⟨h5, h6⟩ := okJ_fine h4
  refine ⟨?_, h6⟩
  unfold badE
  rw [h3, h5]; rfl
theorem ng_may {f : List Jp} (h : mayJ f = true) : mayJ (ngL f) = true := by
  obtain ⟨h1, h2, h3⟩ := mayJ_iff.1 h
  rw [mayJ_iff]
  refine ⟨by unfold ngL; rw [List.length_map]; exact h1, fun j hj => ?_, ?_⟩
  · obtain ⟨k, hk, rfl⟩ := List.mem_map.1 hj
    have := okJ_iff.1 (h2 k hk)
    rw [okJ_iff]
    simp only
    omega
  · unfold ngL Asc at *
    rw [List.pairwise_map]
    exact h3
theorem ng_jv (f : List Jp) (t : Int) : jv (ngL f) t = - jv f t := by
  induction f with
  | nil => rfl
  | cons j f ih =>
    unfold ngL at ih ⊢
    rw [List.map_cons, jv, jv, ih]
    simp only
    split <;> omega
theorem ngOp_ok {f : List Jp} (h : mayJ f = true) : ngOp f = (0, ngL f) := by unfold ngOp ngE ngR; rw [h]; rfl
theorem nm_canon (l : List Jp) : Canon (nmL l) := tell_canon _ _ _ (plc_asc _ _ Asc.nil')
/-- A function that is added and taken away. -/
theorem nm_undo {f g h : List Jp} (hf : mayJ f = true) (hg : mayJ g = true) (hh : h = (nmOp (f ++ g)).2) (h0 : (nmOp (f ++ g)).1 = 0) : nmOp (h ++ ngL g) = (0, f) := by
  have hfg : ∀ j ∈ f ++ g, nowJ j = false := fun j hj => by
    rcases List.mem_append.1 hj with hj | hj
    · exact (okJ_fine ((mayJ_iff.1 hf).2.1 j hj)).2
    · exact (okJ_fine ((mayJ_iff.1 hg).2.1 j hj)).2
  have hE : nmE (f ++ g) = 0 := h0
  have hh2 : h = nmL (f ++ g) := by rw [hh]; show nmR (f ++ g) = _; unfold nmR; rw [if_pos hE]
  have hhm : mayJ h = true := by
    rw [hh2]
    unfold nmE at hE
    split at hE
    · cases hE
    · split at hE
      · cases hE
      · exact full_zero.1 hE
  have hok : ∀ j ∈ h ++ ngL g, tooJ j = false ∧ nowJ j = false := fun j hj => by
    rcases List.mem_append.1 hj with hj | hj
    · exact okJ_fine ((mayJ_iff.1 hhm).2.1 j hj)
    · exact okJ_fine ((mayJ_iff.1 (ng_may hg)).2.1 j hj)
  have e : nmL (h ++ ngL g) = f := by
    refine one_form (nm_canon _) (mayJ_canon hf) (nmL_lt _ fun j hj => (hok j hj).2) (fun j hj => (mayJ_at hf j hj).2) fun t ht => ?_
    rw [nmL_val _ (fun j hj => (hok j hj).2) t ht, jv_append, ng_jv, hh2, nmL_val _ hfg t ht, jv_append]
    omega
  have e1 : nmE (h ++ ngL g) = 0 := by
    unfold nmE
    have a1 : (h ++ ngL g).any tooJ = false := List.any_eq_false.2 fun j hj => by rw [(hok j hj).1]; decide
    have a2 : (h ++ ngL g).any nowJ = false := List.any_eq_false.2 fun j hj => by rw [(hok j hj).2]; decide
    rw [a1, a2, if_neg (by decide), if_neg (by decide), e]
    exact full_zero.2 hf
  unfold nmOp nmR
  rw [e1, if_pos rfl, e]
theorem ev_len {op : List Jp → Int × List Jp} : ∀ {G : List Gp}, (∀ g ∈ G, (op g.2).2.length = g.2.length) → (evL op G).length = (evL (fun f => (0, f)) G).length
  | [], _ => rfl
  | g :: t, h => by
    have ih := ev_len fun x hx => h x (List.mem_cons_of_mem _ hx)
    simp only [evL, List.flatMap_cons, List.length_append, List.length_map] at ih ⊢
    rw [ih, h g (by simp)]
theorem neg_ok {b : List Ed} (h : mayE b = true) : mpE ngOp b = 0 ∧ mayE (mpR ngOp b) = true ∧ ∀ r, jmps (mpR ngOp b) r = ngL (jmps b r) := by
  have hr := mayE_rise h
  have hop : ∀ r, ngOp (jmps b r) = (0, ngL (jmps b r)) := fun r => ngOp_ok (mayJ_rows h r)
  have hev : evE ngOp (byRows b) = 0 := evE_ok fun g hg => by
    obtain ⟨r, -, rfl⟩ := List.mem_map.1 hg
    simp only
    rw [hop r]
  have hlen : (evL ngOp (byRows b)).length ≤ 4096 := by
    rw [ev_len fun g hg => by
      obtain ⟨r, -, rfl⟩ := List.mem_map.1 hg
      simp only
      rw [hop r]
      simp [ngL], ← grp_eq hr, grp_back]
    exact mayE_len h
  have he : eachE ngOp (byRows b) = 0 := by unfold eachE; rw [if_pos hev, if_neg (by omega)]
  have hR : mpR ngOp b = evL ngOp (byRows b) := by unfold mpR; rw [if_pos h, grp_eq hr, (each_zero he).2.2]
  refine ⟨by unfold mpE; rw [if_pos h, grp_eq hr, he], ?_, fun r => ?_⟩
  · rw [hR]
    exact may_each rfl hr.1 hlen fun r => by rw [hop r]; exact ng_may (mayJ_rows h r)
  · rw [hR, jmps_each rfl hr.1, hop r]
/-- What is added and taken away is as if it had not been there. -/
theorem undo_ok {a b : List Ed} (h : adE a b = 0) : mpE ngOp b = 0 ∧ adE (adR a b) (mpR ngOp b) = 0 ∧ adR (adR a b) (mpR ngOp b) = a := by
  have hm : mayE a = true ∧ mayE b = true := by
    unfold adE at h
    cases ha : mayE a
    · rw [ha, Bool.false_and, if_neg (by decide)] at h; cases h
    · cases hb : mayE b
      · rw [ha, hb, Bool.true_and, if_neg (by decide)] at h; cases h
      · exact ⟨rfl, rfl⟩
  obtain ⟨ha, hb⟩ := hm
  have hne : neE (a ++ b) = 0 := by unfold adE at h; rwa [ha, hb, Bool.true_and, if_pos rfl] at h
  obtain ⟨hn1, hn2, hn3⟩ := neg_ok hb
  obtain ⟨q1, q2, q3⟩ := ne_zero hne
  obtain ⟨q4, q5, q6⟩ := each_zero q2
  have hx : adR a b = evL nmOp (byRows (a ++ b)) := by unfold adR; rw [if_pos h, q3]
  have hv : ∀ e ∈ a ++ b, mayR e.1 = true := fun e he => by
    rcases List.mem_append.1 he with he | he
    · exact (mayE_rise ha).1 e he
    · exact (mayE_rise hb).1 e he
  have o1 : (nmOp []).1 = 0 := by rw [nmOp_nil]
  have o2 : (nmOp []).2 = [] := by rw [nmOp_nil]
  have hxr : ∀ r, jmps (adR a b) r = (nmOp (jmps a r ++ jmps b r)).2 ∧ (nmOp (jmps a r ++ jmps b r)).1 = 0 := fun r => by
    have k := op_rows o1 hv q4 r
    rw [jmps_append] at k
    exact ⟨by rw [hx, jmps_each o2 hv, jmps_append], k⟩
  have hund : ∀ r, nmOp (jmps (adR a b ++ mpR ngOp b) r) = (0, jmps a r) := fun r => by
    rw [jmps_append, hn3 r]
    exact nm_undo (mayJ_rows ha r) (mayJ_rows hb r) (hxr r).1 (hxr r).2
  have hmx : mayE (adR a b) = true := by
    rw [hx]
    refine may_each o2 hv q5 fun r => ?_
    rw [jmps_append]
    have k := (hxr r).2
    have hE : nmE (jmps a r ++ jmps b r) = 0 := k
    show mayJ (nmR _) = true
    unfold nmR
    rw [if_pos hE]
    unfold nmE at hE
    split at hE
    · cases hE
    · split at hE
      · cases hE
      · exact full_zero.1 hE
  have hfine : ∀ e ∈ adR a b ++ mpR ngOp b, badE e = false ∧ nowJ e.2 = false := fun e he => by
    rcases List.mem_append.1 he with he | he
    · exact may_fine hmx e he
    · exact may_fine hn2 e he
  have hv2 : ∀ e ∈ adR a b ++ mpR ngOp b, mayR e.1 = true := fun e he => by
    rcases List.mem_append.1 he with he | he
    · exact (mayE_rise hmx).1 e he
    · exact (mayE_rise hn2).1 e he
  have hev : evE nmOp (byRows (adR a b ++ mpR ngOp b)) = 0 := evE_ok fun g hg => by
    obtain ⟨r, -, rfl⟩ := List.mem_map.1 hg
    simp only
    rw [hund r]
  have hz : evL nmOp (byRows (adR a b ++ mpR ngOp b)) = a := ed_ext (rise_each nmOp hv2) (mayE_rise ha) fun r => by rw [jmps_each o2 hv2, hund r]
  have he : eachE nmOp (byRows (adR a b ++ mpR ngOp b)) = 0 := by
    unfold eachE
    have := mayE_len ha
    rw [if_pos hev, hz, if_neg (by omega)]
  have hne2 : neE (adR a b ++ mpR ngOp b) = 0 := by rw [ne_ok hfine, he]
  have hadd : adE (adR a b) (mpR ngOp b) = 0 := by unfold adE; rw [hmx, hn2, Bool.true_and, if_pos rfl, hne2]
  refine ⟨hn1, hadd, ?_⟩
  unfold adR at *
  rw [if_pos hadd, (ne_zero hne2).2.2, hz]
end Go.Proofs.Ytoghgjgaolinaaa
