/-
  A helper of ours: no claim of its own. Layer 11 (pack), lists only: pieces: the edges of packed pieces are what they were packed of; what is packed is not changed by packing; at each place; both parts of packed pieces.
-/
import Derived.Test.YtobmjcehgpmfgaaGreatPakD
import Derived.Test.YtobmjcehgpmfgaaGreatPakI
set_option linter.unusedVariables false
set_option linter.unusedSimpArgs false
namespace Go.Proofs.YtobmjcehgpmfgaaGreat
open Go.RowKit
theorem jmps_ends (A : List Ed) (r : List Vl) : jmps (endsE A) r = spj (jmps A r) := by
  induction A with
  | nil => rfl
  | cons e A ih =>
    have e1 : endsE (e :: A) = (e.1, (e.2.1, 1)) :: (e.1, (e.2.2, -1)) :: endsE A := rfl
    rw [e1, jmps_cons, jmps_cons, ih, jmps_cons]
    by_cases h : e.1 = r
    · simp only [if_pos h]; rfl
    · simp only [if_neg h]
theorem mayPc_sp {e : Ed} (h : mayPc e = true) : mayR e.1 = true ∧ -1 ≤ e.2.1 ∧ e.2.1 < e.2.2 ∧ e.2.2 ≤ 1125899906842624 := by
  unfold mayPc smayB isTickB fbB at h
  rw [Bool.and_eq_true, Bool.or_eq_true, Bool.and_eq_true, Bool.and_eq_true, Bool.and_eq_true, Bool.and_eq_true, decide_eq_true_iff, decide_eq_true_iff, decide_eq_true_iff, decide_eq_true_iff, decide_eq_true_iff, decide_eq_true_iff] at h
  refine ⟨h.1, ?_⟩
  have := h.2
  omega
theorem mayPc_of {q : List Vl} {a b : Int} (hq : mayR q = true) (h1 : -1 ≤ a) (h2 : a < b) (h3 : b ≤ 1125899906842624) : mayPc (q, (a, b)) = true := by
  unfold mayPc smayB isTickB fbB
  rw [Bool.and_eq_true, Bool.or_eq_true, Bool.and_eq_true, Bool.and_eq_true, Bool.and_eq_true, Bool.and_eq_true, decide_eq_true_iff, decide_eq_true_iff, decide_eq_true_iff, decide_eq_true_iff, decide_eq_true_iff, decide_eq_true_iff]
  simp only
  exact ⟨hq, by omega⟩
theorem pc_rng {C : List Ed} (h : C.all mayPc = true) (r : List Vl) : ∀ s ∈ jmps C r, -1 ≤ s.1 ∧ s.1 < s.2 ∧ s.2 ≤ 1125899906842624 := fun s hs => (mayPc_sp (List.all_eq_true.1 h _ (jmps_mem.1 hs))).2
theorem ends_mem {C : List Ed} {e : Ed} (h : e ∈ endsE C) : ∃ p ∈ C, e.1 = p.1 ∧ (e.2 = (p.2.1, 1) ∨ e.2 = (p.2.2, -1)) := by
  obtain ⟨p, hp, h⟩ := List.mem_flatMap.1 h
  simp only [List.mem_cons, List.not_mem_nil, or_false] at h
  rcases h with rfl | rfl
  · exact ⟨p, hp, rfl, .inl rfl⟩
  · exact ⟨p, hp, rfl, .inr rfl⟩
theorem ends_len (C : List Ed) : (endsE C).length = 2 * C.length := by
  induction C with
  | nil => rfl
  | cons e C ih =>
    have e1 : endsE (e :: C) = (e.1, (e.2.1, 1)) :: (e.1, (e.2.2, -1)) :: endsE C := rfl
    rw [e1, List.length_cons, List.length_cons, ih, List.length_cons]; omega
theorem ends_row {C : List Ed} (h : C.all mayPc = true) : ∀ e ∈ endsE C, mayR e.1 = true := fun e he => by
  obtain ⟨p, hp, e1, -⟩ := ends_mem he
  rw [e1]; exact (mayPc_sp (List.all_eq_true.1 h p hp)).1
theorem ends_fine {C : List Ed} (h : C.all mayPc = true) : ∀ e ∈ endsE C, badE e = false ∧ nowJ e.2 = false := fun e he => by
  have hr := ends_row h e he
  obtain ⟨p, hp, e1, e2⟩ := ends_mem he
  have hs := mayPc_sp (List.all_eq_true.1 h p hp)
  unfold badE tooJ nowJ
  rw [hr, Bool.not_true, Bool.false_or, decide_eq_false_iff_not, decide_eq_false_iff_not]
  rcases e2 with e2 | e2 <;> (rw [e2]; simp only; omega)
theorem nm_zero {g : List Jp} (h : (nmOp g).1 = 0) : mayJ (nmL g) = true ∧ (nmOp g).2 = nmL g := by
  have hE : nmE g = 0 := h
  refine ⟨?_, by show nmR g = _; unfold nmR; rw [if_pos hE]⟩
  unfold nmE at hE
  split at hE
  · cases hE
  · split at hE
    · cases hE
    · exact full_zero.1 hE
/-- Pieces whose ends, row by row, are the jumps of edges in form. -/
theorem pk_of {C E : List Ed} (hC : C.all mayPc = true) (h4 : C.length ≤ 4096) (hE : mayE E = true) (h : ∀ r, nmOp (spj (jmps C r)) = (0, jmps E r)) : pkE C = 0 ∧ pkR C = E := by
  have hfine := ends_fine hC
  have hv := ends_row hC
  have o2 : (nmOp []).2 = [] := by rw [nmOp_nil]
  have hev : evE nmOp (byRows (endsE C)) = 0 := evE_ok fun g hg => by
    obtain ⟨r, -, rfl⟩ := List.mem_map.1 hg
    simp only
    rw [jmps_ends, h r]
  have hz : evL nmOp (byRows (endsE C)) = E := ed_ext (rise_each nmOp hv) (mayE_rise hE) fun r => by rw [jmps_each o2 hv, jmps_ends, h r]
  have he : eachE nmOp (byRows (endsE C)) = 0 := by
    unfold eachE
    have := mayE_len hE
    rw [if_pos hev, hz, if_neg (by omega)]
  have hne : neE (endsE C) = 0 := by rw [ne_ok hfine, he]
  have hp : pkE C = 0 := by unfold pkE; rw [hC, if_pos rfl, if_neg (by omega), hne]
  exact ⟨hp, by unfold pkR; rw [if_pos hp, (ne_zero hne).2.2, hz]⟩
theorem pk_zero {C : List Ed} (h : pkE C = 0) : C.all mayPc = true ∧ C.length ≤ 4096 ∧ mayE (pkR C) = true ∧ ∀ r, nmOp (spj (jmps C r)) = (0, jmps (pkR C) r) := by
  have h' := h
  unfold pkE at h
  by_cases hC : C.all mayPc = true
  · rw [if_pos hC] at h
    by_cases h4 : 4096 < C.length
    · rw [if_pos h4] at h; cases h
    · rw [if_neg h4] at h
      have hv := ends_row hC
      have o1 : (nmOp []).1 = 0 := by rw [nmOp_nil]
      have o2 : (nmOp []).2 = [] := by rw [nmOp_nil]
      obtain ⟨q1, q2, q3⟩ := ne_zero h
      obtain ⟨q4, q5, q6⟩ := each_zero q2
      have hx : pkR C = evL nmOp (byRows (endsE C)) := by unfold pkR; rw [if_pos h', q3]
      have hk : ∀ r, (nmOp (jmps (endsE C) r)).1 = 0 := op_rows o1 hv q4
      refine ⟨hC, by omega, ?_, fun r => ?_⟩
      · rw [hx]
        refine may_each o2 hv q5 fun r => ?_
        obtain ⟨k1, k2⟩ := nm_zero (hk r)
        rw [k2]; exact k1
      · rw [hx, jmps_each o2 hv, jmps_ends]
        have k := hk r
        rw [jmps_ends] at k
        exact Prod.ext k rfl
  · rw [if_neg hC] at h; cases h
theorem pk_row {C : List Ed} (h : pkE C = 0) (r : List Vl) : jmps (pkR C) r = nmL (spj (jmps C r)) := by
  have h1 := (pk_zero h).2.2.2 r
  have h2 := (nm_zero (g := spj (jmps C r)) (by rw [h1])).2
  rw [h1] at h2
  exact h2
def lfOp (f : List Jp) : Int × List Jp := (0, lifeL f)
theorem pieces_ev {E : List Ed} (hr : Rise E) : piecesL (grp E) = evL lfOp (byRows E) := by rw [← grp_eq hr]; rfl
theorem pieces_rise {E : List Ed} (hr : Rise E) : Rise (piecesL (grp E)) := by rw [pieces_ev hr]; exact rise_each lfOp hr.1
theorem jmps_pieces {E : List Ed} (hr : Rise E) (r : List Vl) : jmps (piecesL (grp E)) r = lifeL (jmps E r) := by
  rw [pieces_ev hr, jmps_each (op := lfOp) rfl hr.1]; rfl
theorem tab_may {E : List Ed} (h : tabE E = true) : mayE E = true := by
  unfold tabE at h
  rw [Bool.and_eq_true] at h
  exact h.1
theorem tab_le {E : List Ed} (h : tabE E = true) (r : List Vl) : 0 ≤ leV (jmps E r) := by
  have hm := tab_may h
  unfold tabE at h
  rw [Bool.and_eq_true, List.all_eq_true] at h
  by_cases hr : r ∈ rowsL E
  · have := h.2 (r, jmps E r) (by rw [grp_eq (mayE_rise hm)]; exact List.mem_map.2 ⟨r, hr, rfl⟩)
    simpa using this
  · rw [mem_rows (mayE_rise hm).1] at hr
    rw [Decidable.not_not.1 hr]
    decide
theorem pieces_may {E : List Ed} (h : tabE E = true) : (piecesL (grp E)).all mayPc = true := by
  have hm := tab_may h
  rw [List.all_eq_true]
  intro e he
  have h1 : e.2 ∈ jmps (piecesL (grp E)) e.1 := jmps_mem.2 he
  rw [jmps_pieces (mayE_rise hm)] at h1
  obtain ⟨q, a, b⟩ := e
  have h2 := (life_ok (mayJ_rows hm _) (tab_le h _)).rng _ h1
  exact mayPc_of ((pieces_rise (mayE_rise hm)).1 _ he) h2.1 h2.2.1 h2.2.2
/-- The edges of a table's pieces are the table. -/
theorem pk_back {E : List Ed} (h : tabE E = true) (h4 : (piecesL (grp E)).length ≤ 4096) : pkE (piecesL (grp E)) = 0 ∧ pkR (piecesL (grp E)) = E := by
  have hm := tab_may h
  exact pk_of (pieces_may h) h4 hm fun r => by rw [jmps_pieces (mayE_rise hm)]; exact life_nm (mayJ_rows hm r) (tab_le h r)
theorem split_len (q : List Vl) (X : List Ed) : (jmps X q).length + (X.filter fun e => decide (e.1 ≠ q)).length = X.length := by
  induction X with
  | nil => rfl
  | cons e X ih =>
    rw [jmps_cons, List.filter_cons]
    by_cases h : e.1 = q
    · rw [if_pos h, if_neg (by simpa using h), List.length_cons, List.length_cons]; omega
    · rw [if_neg h, if_pos (by simpa using h), List.length_cons, List.length_cons]; omega
theorem jmps_other {q r : List Vl} (h : q ≠ r) (X : List Ed) : jmps (X.filter fun e => decide (e.1 ≠ q)) r = jmps X r := by
  induction X with
  | nil => rfl
  | cons e X ih =>
    rw [List.filter_cons, jmps_cons]
    by_cases h1 : e.1 = q
    · rw [if_neg (by simpa using h1), ih, if_neg (by rw [h1]; exact h)]
    · rw [if_pos (by simpa using h1), jmps_cons, ih]
/-- Of each row no more than there were: no more in all. -/
theorem len_rows (F : List Vl → List Jp) : ∀ (rows : List (List Vl)) (X : List Ed), rows.Pairwise rlt → (∀ r ∈ rows, (F r).length ≤ (jmps X r).length) → (rows.flatMap fun q => (F q).map fun j => (q, j)).length ≤ X.length
  | [], X, _, _ => by simp
  | q :: rows, X, h, k => by
    obtain ⟨h1, h2⟩ := List.pairwise_cons.1 h
    have ih := len_rows F rows (X.filter fun e => decide (e.1 ≠ q)) h2 fun r hr => by
      rw [jmps_other (rlt_ne (h1 r hr))]
      exact k r (by simp [hr])
    have h3 := k q (by simp)
    have h4 := split_len q X
    rw [List.flatMap_cons, List.length_append, List.length_map]
    omega
theorem ev_flat (op : List Jp → Int × List Jp) (E : List Ed) : evL op (byRows E) = (rowsL E).flatMap fun q => ((op (jmps E q)).2).map fun j => (q, j) := by
  unfold evL byRows
  rw [List.flatMap_map]
/-- There are no more packed pieces than pieces. -/
theorem pieces_len {X : List Ed} (h : pkE X = 0) : (piecesL (grp (pkR X))).length ≤ X.length := by
  obtain ⟨hC, -, hE, -⟩ := pk_zero h
  rw [pieces_ev (mayE_rise hE), ev_flat]
  refine len_rows (fun q => (lfOp (jmps (pkR X) q)).2) _ _ (rowsL_ok (mayE_rise hE).1).1 fun r _ => ?_
  show (lifeL (jmps (pkR X) r)).length ≤ _
  rw [pk_row h r]
  exact nm_cnt (pc_rng hC r)
theorem pk_tab {X : List Ed} (h : pkE X = 0) : tabE (pkR X) = true := by
  obtain ⟨hC, -, hE, -⟩ := pk_zero h
  unfold tabE
  rw [hE, Bool.true_and, List.all_eq_true]
  intro g hg
  have h1 := ((grp_rows (mayE_rise hE)).2.2 g hg).1
  rw [decide_eq_true_iff, h1]
  refine leV_pos (fun t ht => ?_) (mayJ_rows hE g.1)
  have hr := pc_rng hC g.1
  rw [pk_row h, nmL_val _ (fun j hj => (okS_fine hr j hj).2) t ht]
  exact jv_pos (fun s hs => (hr s hs).2.1) t
theorem pc_ok {X : List Ed} (h : pkE X = 0) : pcE (pkR X) = 0 := by
  obtain ⟨hC, h4, hE, -⟩ := pk_zero h
  have := pieces_len h
  unfold pcE
  rw [if_pos hE, if_pos (pk_tab h), if_neg (by omega)]
theorem pp_eq (X : List Ed) : ppE X = pkE X := by
  unfold ppE
  by_cases h : pkE X = 0
  · rw [if_pos h, h, pc_ok h]
  · rw [if_neg h]
theorem pp_ok {X : List Ed} (h : pkE X = 0) : ppR X = piecesL (grp (pkR X)) := by
  unfold ppR pcR
  rw [if_pos h, if_pos (pc_ok h)]
theorem ends_perm {A B : List Ed} (h : A.Perm B) : (endsE A).Perm (endsE B) := by
  induction h with
  | nil => exact List.Perm.refl _
  | cons a _ ih => exact (ih.cons _).cons _
  | swap a b l =>
    show ((b.1, (b.2.1, (1 : Int))) :: (b.1, (b.2.2, (-1 : Int))) :: (a.1, (a.2.1, (1 : Int))) :: (a.1, (a.2.2, (-1 : Int))) :: endsE l).Perm ((a.1, (a.2.1, (1 : Int))) :: (a.1, (a.2.2, (-1 : Int))) :: (b.1, (b.2.1, (1 : Int))) :: (b.1, (b.2.2, (-1 : Int))) :: endsE l)
    exact (List.perm_append_comm (l₁ := [(b.1, (b.2.1, (1 : Int))), (b.1, (b.2.2, (-1 : Int)))]) (l₂ := [(a.1, (a.2.1, (1 : Int))), (a.1, (a.2.2, (-1 : Int)))])).append_right (endsE l)
  | trans _ _ h1 h2 => exact h1.trans h2
theorem pk_perm {A B : List Ed} (h : A.Perm B) : pkE A = pkE B ∧ pkR A = pkR B := by
  obtain ⟨h1, h2⟩ := ne_perm (ends_perm h)
  have hall : A.all mayPc = B.all mayPc := by
    rw [Bool.eq_iff_iff, List.all_eq_true, List.all_eq_true]
    exact ⟨fun k x hx => k x (h.mem_iff.2 hx), fun k x hx => k x (h.mem_iff.1 hx)⟩
  have e : pkE A = pkE B := by unfold pkE; rw [hall, h.length_eq, h1]
  exact ⟨e, by unfold pkR; rw [e, h2]⟩
/-- What is packed is not changed by packing, in whatever order its pieces come. -/
theorem pp_once {X B : List Ed} (h : pkE X = 0) (hp : B.Perm (ppR X)) : ppE B = 0 ∧ ppR B = ppR X ∧ (ppR X).length ≤ X.length := by
  have h4 := (pk_zero h).2.1
  have hl := pieces_len h
  rw [pp_ok h] at hp ⊢
  obtain ⟨b1, b2⟩ := pk_back (pk_tab h) (by omega)
  obtain ⟨e1, e2⟩ := pk_perm hp
  have h0 : pkE B = 0 := by rw [e1, b1]
  exact ⟨by rw [pp_eq, h0], by rw [pp_ok h0, e2, b2], hl⟩
/-- How many pieces of a row have a place. -/
def aliveL (r : List Vl) (t : Int) : List Ed → Int
  | [] => 0
  | e :: l => (if e.1 = r ∧ e.2.1 ≤ t ∧ t < e.2.2 then 1 else 0) + aliveL r t l
theorem alive_jv {C : List Ed} (h : C.all mayPc = true) (r : List Vl) (t : Int) : aliveL r t C = jv (spj (jmps C r)) t := by
  induction C with
  | nil => rfl
  | cons e C ih =>
    rw [List.all_cons, Bool.and_eq_true] at h
    have h1 := mayPc_sp h.1
    rw [aliveL, ih h.2, jmps_cons]
    by_cases hr : e.1 = r
    · rw [if_pos hr, spj_cons, jv, jv]
      simp only
      by_cases h2 : e.2.1 ≤ t
      · by_cases h3 : t < e.2.2
        · rw [if_pos ⟨hr, h2, h3⟩, if_pos h2, if_neg (by omega)]; omega
        · rw [if_neg (fun k => h3 k.2.2), if_pos h2, if_pos (by omega)]; omega
      · rw [if_neg (fun k => h2 k.2.1), if_neg h2, if_neg (by omega)]; omega
    · rw [if_neg hr, if_neg (fun k => hr k.1)]; omega
/-- At each place there are as many, packed, and by the edges. -/
theorem alive_pack {X : List Ed} (h : pkE X = 0) (r : List Vl) {t : Int} (ht : t < 1125899906842624) : aliveL r t (ppR X) = aliveL r t X ∧ jv (jmps (pkR X) r) t = aliveL r t X := by
  obtain ⟨hC, h4, hE, -⟩ := pk_zero h
  have hl := pieces_len h
  have htab := pk_tab h
  have hr := pc_rng hC r
  have e1 : jv (jmps (pkR X) r) t = aliveL r t X := by rw [alive_jv hC, pk_row h, nmL_val _ (fun j hj => (okS_fine hr j hj).2) t ht]
  refine ⟨?_, e1⟩
  rw [pp_ok h, alive_jv (pieces_may htab), jmps_pieces (mayE_rise hE), life_jv (end_le (mayJ_rows hE r) (tab_le htab r)) ht, e1]
theorem nm_len (g : List Jp) : (nmOp g).2.length ≤ g.length := by
  have hlen : ∀ (v : Int → Int) (ps : List Int) (was : Int), (tell v ps was).length ≤ ps.length := by
    intro v ps
    induction ps with
    | nil => intro was; simp [tell]
    | cons p r ih =>
      intro was
      rw [tell]
      split
      · have := ih (v p); rw [List.length_cons]; omega
      · have := ih (v p); rw [List.length_cons, List.length_cons]; omega
  have h1 := hlen (jv g) (plc [] (inF g)) 0
  have h2 := plc_length (inF g) [] Asc.nil'
  have h3 : (inF g).length ≤ g.length := List.length_filter_le _ _
  have h4 : (nmL g).length ≤ (plc [] (inF g)).length := h1
  simp only [List.length_nil] at h2
  show (nmR g).length ≤ _
  unfold nmR
  split
  · omega
  · simp
/-- Few pieces have a table. -/
theorem pk_few {C : List Ed} (hC : C.all mayPc = true) (hl : C.length ≤ 512) : pkE C = 0 := by
  have hv := ends_row hC
  have hn : ∀ r, (nmOp (jmps (endsE C) r)).1 = 0 := fun r => by
    have hr := pc_rng hC r
    have hjl : (jmps C r).length ≤ 512 := Nat.le_trans (jmps_le C r) hl
    rw [jmps_ends, nm_fine (okS_fine hr) rfl (few_may hr hjl)]
  have hev : evE nmOp (byRows (endsE C)) = 0 := evE_ok fun g hg => by
    obtain ⟨r, -, rfl⟩ := List.mem_map.1 hg
    exact hn r
  have hlen : (evL nmOp (byRows (endsE C))).length ≤ (endsE C).length := by
    rw [ev_flat]
    exact len_rows (fun q => (nmOp (jmps (endsE C) q)).2) _ _ (rowsL_ok hv).1 fun r _ => nm_len _
  rw [ends_len] at hlen
  have he : eachE nmOp (byRows (endsE C)) = 0 := by
    unfold eachE
    rw [if_pos hev, if_neg (by omega)]
  unfold pkE
  rw [hC, if_pos rfl, if_neg (by omega), ne_ok (ends_fine hC), he]
/-! ### Both parts of packed pieces -/
theorem jmps_cut (f : Ed → List Ed) (g : Sp → List Sp) (hfg : ∀ e, f e = (g e.2).map fun s => (e.1, s)) (A : List Ed) (r : List Vl) : jmps (A.flatMap f) r = (jmps A r).flatMap g := by
  induction A with
  | nil => rfl
  | cons e A ih =>
    rw [List.flatMap_cons, jmps_append, ih, hfg, jmps_const, jmps_cons]
    by_cases h : e.1 = r
    · rw [if_pos h, if_pos h, List.flatMap_cons]
    · rw [if_neg h, if_neg h, List.nil_append]
theorem cut_rise (f : Ed → List Ed) (g : Sp → List Sp) (hfg : ∀ e, f e = (g e.2).map fun s => (e.1, s)) (hg : ∀ s, (g s).length ≤ 1) : ∀ {A : List Ed}, Rise A → Rise (A.flatMap f) ∧ (A.flatMap f).length ≤ A.length
  | [], _ => ⟨⟨by simp, List.Pairwise.nil⟩, Nat.le_refl _⟩
  | e :: A, h => by
    obtain ⟨⟨i1, i2⟩, i3⟩ := cut_rise f g hfg hg h.tail
    have h1 := (List.pairwise_cons.1 h.2).1
    have hmem : ∀ x ∈ A.flatMap f, ∃ a ∈ A, x.1 = a.1 := fun x hx => by
      obtain ⟨a, ha, hx⟩ := List.mem_flatMap.1 hx
      rw [hfg] at hx
      obtain ⟨s, -, rfl⟩ := List.mem_map.1 hx
      exact ⟨a, ha, rfl⟩
    rw [List.flatMap_cons]
    have hg1 := hg e.2
    rcases hgs : g e.2 with _ | ⟨s, rest⟩
    · have e1 : f e = [] := by rw [hfg, hgs]; rfl
      rw [e1, List.nil_append, List.length_cons]
      exact ⟨⟨i1, i2⟩, by omega⟩
    · rw [hgs, List.length_cons] at hg1
      have e2 : rest = [] := List.eq_nil_of_length_eq_zero (by omega)
      have e1 : f e = [(e.1, s)] := by rw [hfg, hgs, e2]; rfl
      rw [e1, List.singleton_append, List.length_cons, List.length_cons]
      refine ⟨⟨fun x hx => ?_, List.pairwise_cons.2 ⟨fun x hx => ?_, i2⟩⟩, by omega⟩
      · rcases List.mem_cons.1 hx with rfl | hx
        · exact h.1 e (by simp)
        · exact i1 x hx
      · obtain ⟨a, ha, e3⟩ := hmem x hx
        rw [e3]; exact h1 a ha
theorem pcAh_sp (t : Int) (e : Ed) : (if e.2.1 < t then [(e.1, (e.2.1, min e.2.2 t))] else []) = (spAh t e.2).map fun s => (e.1, s) := by
  unfold spAh
  by_cases h : e.2.1 < t
  · rw [if_pos h, if_pos h]; rfl
  · rw [if_neg h, if_neg h]; rfl
theorem spAh_len (t : Int) (s : Sp) : (spAh t s).length ≤ 1 := by unfold spAh; split <;> simp
end Go.Proofs.YtobmjcehgpmfgaaGreat
