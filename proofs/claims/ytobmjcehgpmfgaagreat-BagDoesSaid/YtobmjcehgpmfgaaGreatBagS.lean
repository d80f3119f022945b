/-
  A helper of ours: no claim of its own. Layer 12 (bag): a sum of a table and edges, row by row, on lists.
-/
import Derived.Test.YtobmjcehgpmfgaaGreatEdgNd
import Derived.Test.YtobmjcehgpmfgaaGreatEdgMy
import Derived.Test.YtobmjcehgpmfgaaGreatEdgGs
import Derived.Test.YtobmjcehgpmfgaaGreatEdgQ
set_option linter.unusedVariables false
set_option linter.unusedSimpArgs false
namespace Go.Proofs.YtobmjcehgpmfgaaGreat
open Go.RowKit
attribute [local go_sem] GW.cell GW.frozen In.eq_true In.le_true In.ne In.ne' In.ne_add In.ne_add' In.lt_add Upto.le_true Upto.le_add Upto.lt_add
theorem own_two {w w2 : World} {base : Nat} {L M : List Ve} {v u x : Value} (hl : Ew w [] v L) (hm : Ew w [] u M) (hX : Ext w w2) (h : w2.ownsRow base 115 3 x (0 + L.length + M.length) (([] ++ ec L) ++ ec M)) : Ew w2 [] x (L ++ M) := by
  rw [Nat.zero_add, List.nil_append] at h
  refine ⟨Sl.own (own_appE h) (by simp), fun p hp => ?_⟩
  rcases List.mem_append.1 hp with hp | hp
  · exact Sl.ext (hl.2 p hp) hX
  · exact Sl.ext (hm.2 p hp) hX
theorem ne_may {l : List Ed} (h : neE l = 0) : mayE (neR l) = true := by
  obtain ⟨h1, h2, h3⟩ := ne_zero h
  obtain ⟨k1, k2, k3⟩ := each_zero h2
  have hv : ∀ e ∈ l, mayR e.1 = true := fun e he => by
    have := (h1 e he).1
    unfold badE at this
    cases hm : mayR e.1
    · rw [hm] at this; simp at this
    · rfl
  rw [h3]
  refine may_each (by rw [nmOp_nil]) hv k2 fun r => ?_
  have h0 := op_rows (op := nmOp) (by rw [nmOp_nil]) hv k1 r
  unfold nmOp at h0 ⊢
  simp only at h0 ⊢
  unfold nmR
  rw [if_pos h0]
  unfold nmE at h0
  split at h0
  · cases h0
  · split at h0
    · cases h0
    · unfold full at h0
      split at h0
      · assumption
      · cases h0
set_option maxHeartbeats 4000000 in
set_option maxRecDepth 100000 in
theorem refEdgeAdd_c (L M : List Ve) (hLM : L.length + M.length ≤ 1024) (v u : Value) (w : World) (hl : Ew w [] v L) (hm : Ew w [] u M) : Calls Tryz.prog 78 #[v, u] w fun e w' => ∃ v' N, e = .returned (.tuple #[v', .int .i64 (adE (eds L) (eds M))]) ∧ eds N = adR (eds L) (eds M) ∧ OwnEr w' w.heap.size v' N ∧ Ext w w' := by
  have h1 := hide (fun w' (hX : Ext w w') => refEdgeMay_c L v w' (hl.ext hX))
  have h2 := hide (fun w' (hX : Ext w w') => refEdgeMay_c M u w' (hm.ext hX))
  have hX0 := hide (Ext.refl w)
  have hl' := hide hl
  have hm' := hide hm
  obtain ⟨A, cap, rfl, hlc, hlm, -⟩ := ew_form hl
  obtain ⟨B, cap2, rfl, hmc, hmm, -⟩ := ew_form hm
  obtain ⟨E, hE⟩ : ∃ E, E = adE (eds L) (eds M) := ⟨_, rfl⟩
  obtain ⟨R, hR⟩ : ∃ R, R = adR (eds L) (eds M) := ⟨_, rfl⟩
  rw [← hE, ← hR]
  unfold adR at hR
  rw [← hE] at hR
  unfold adE at hE
  clear hl hm
  cases ha : mayE (eds L)
  · rw [ha, Bool.false_and, if_neg (by decide)] at hE
    rw [ha] at h1
    subst hE
    replace hR : R = [] := by rw [hR, if_neg (by decide)]
    replace hR := hide hR
    go_enter Tryz.func78, Tryz.ntmps78
    go_wp2_with (go_at_call 77; (with_reducible refine seq_gw (h1.out _ hX0.out) ?_); intro g)
    go_returns
    exact ⟨_, [], rfl, by rw [hR.out]; rfl, OwnEr.nil _ _, g.grown⟩
  cases hb : mayE (eds M)
  · rw [ha, hb, Bool.true_and, if_neg (by decide)] at hE
    rw [ha] at h1
    rw [hb] at h2
    subst hE
    replace hR : R = [] := by rw [hR, if_neg (by decide)]
    replace hR := hide hR
    go_enter Tryz.func78, Tryz.ntmps78
    go_wp2_with (first | (go_at_call 77; (with_reducible refine seq_gw (h1.out _ hX0.out) ?_); intro g) | (go_at_call 77; (with_reducible refine seq_gw' (h2.out _ g.grown) ?_); intro g2))
    go_returns
    exact ⟨_, [], rfl, by rw [hR.out]; rfl, OwnEr.nil _ _, g2.grown⟩
  rw [ha, hb, Bool.true_and, if_pos rfl] at hE
  rw [ha] at h1
  rw [hb] at h2
  have hR2 : Hid (R = neR (eds L ++ eds M)) := by
    show R = _
    rw [hR]
    split
    · rfl
    · rename_i h; rw [hE] at h; rw [neR_bad h]
  have hlit := hide (fun (W : World) => World.ownsRow_lit (base := W.heap.size) (e := 115) (size := 3) W #[] 0 (Nat.le_refl _) (by decide) rfl)
  have heq : Hid (eds (L ++ M) = eds L ++ eds M) := by show _ = _; simp [eds]
  replace hE := hide hE
  clear hR ha hb
  go_enter Tryz.func78, Tryz.ntmps78
  go_wp2_with (first | (go_at_call 77; (with_reducible refine seq_gw (h1.out _ hX0.out) ?_); intro g) | (go_at_call 77; (with_reducible refine seq_gw' (h2.out _ g.grown) ?_); intro g2) | (at_builtin; first | (refine wpl_app tEdg rfl (.tmp 14) (.tmp 15) rfl rfl (hlit.out g2.val) rfl (src_sl Tryz.underlying31 (hl'.out.ext (g2.grown.alloc _)).1 (hl'.out.ext (g2.grown.alloc (.cells #[] 115))).one (by omega)) (by unfold maxLen; omega) (by omega) (by simp) ?_; intro v1 w1 ho1 hg1 _; have hX1 := hide (ext_grown ((Ext.refl g2.val).alloc (.cells #[] 115)) hg1 (fun q hq => ((hlit.out g2.val).lt q hq).1))) | (refine wpl_app tEdg rfl (.tmp 16) (.tmp 17) rfl rfl ho1 rfl (src_sl Tryz.underlying31 (hm'.out.ext (g2.grown.trans hX1.out)).1 (hm'.out.ext (g2.grown.trans hX1.out)).one (by omega)) (by unfold maxLen; omega) (by omega) hX1.out.size ?_; intro v2 w2 ho2 hg2 _; have hX2 := hide (ext_grown hX1.out hg2 (fun q hq => (ho1.lt q hq).1)); have hX4 := hide (g2.grown.trans hX2.out))) | (go_at_call 109; refine (refEdgeNorm_c (L ++ M) (by rw [List.length_append]; omega) _ _ (own_two hl'.out hm'.out hX4.out ho2)).mono ?_; rintro ee w5 ⟨v5, N, rfl, hN, ho5, hX5⟩))
  go_returns
  exact ⟨_, N, by rw [hE.out]; rfl, by rw [hN, hR2.out, heq.out], ho5.lower hX4.out.size, hX4.out.trans hX5⟩
end Go.Proofs.YtobmjcehgpmfgaaGreat
set_option linter.unusedVariables false
set_option linter.unusedSimpArgs false
namespace Go.Proofs.YtobmjcehgpmfgaaGreat
open Go.RowKit
/-- A row's function, of a table and of edges, added up. -/
def addOne (X : List Ed) (g : Gp) : Int × List Jp := nmOp (jmps X g.1 ++ g.2)
theorem fineJ {f : List Jp} (h : mayJ f = true) : ∀ j ∈ f, tooJ j = false ∧ nowJ j = false := fun j hj => okJ_fine ((mayJ_iff.1 h).2.1 j hj)
theorem nmE_full {f : List Jp} (h : ∀ j ∈ f, tooJ j = false ∧ nowJ j = false) : nmE f = full (nmL f) := by
  unfold nmE
  have a1 : f.any tooJ = false := List.any_eq_false.2 fun j hj => by rw [(h j hj).1]; decide
  have a2 : f.any nowJ = false := List.any_eq_false.2 fun j hj => by rw [(h j hj).2]; decide
  rw [a1, a2, if_neg (by decide), if_neg (by decide)]
theorem nm_self {f : List Jp} (h : mayJ f = true) : nmOp f = (0, f) := by
  have hf := fineJ h
  have e : nmL f = f := one_form (nm_canon _) (mayJ_canon h) (nmL_lt _ fun j hj => (hf j hj).2) (fun j hj => (mayJ_at h j hj).2) fun t ht => nmL_val _ (fun j hj => (hf j hj).2) t ht
  have e1 : nmE f = 0 := by rw [nmE_full hf, e]; exact full_zero.2 h
  unfold nmOp nmR
  rw [e1, if_pos rfl, e]
theorem nm_err {f : List Jp} (h : ∀ j ∈ f, tooJ j = false ∧ nowJ j = false) : (nmOp f).1 = 0 ∨ (nmOp f).1 = 7 := by
  show nmE f = 0 ∨ nmE f = 7
  rw [nmE_full h]
  unfold full
  split
  · exact .inl rfl
  · exact .inr rfl
theorem evE_seven {op : List Jp → Int × List Jp} : ∀ {G : List Gp}, (∀ g ∈ G, (op g.2).1 = 0 ∨ (op g.2).1 = 7) → (evE op G = 0 ∧ ∀ g ∈ G, (op g.2).1 = 0) ∨ (evE op G = 7 ∧ ∃ g ∈ G, (op g.2).1 = 7)
  | [], _ => .inl ⟨rfl, by simp⟩
  | g :: G, h => by
    have hg := h g (by simp)
    rw [evE]
    rcases hg with hg | hg
    · rw [if_pos hg]
      rcases evE_seven (G := G) (fun x hx => h x (by simp [hx])) with ⟨h1, h2⟩ | ⟨h1, x, hx, h2⟩
      · exact .inl ⟨h1, fun x hx => (List.mem_cons.1 hx).elim (fun e => e ▸ hg) (h2 x)⟩
      · exact .inr ⟨h1, x, by simp [hx], h2⟩
    · rw [if_neg (by rw [hg]; decide), hg]
      exact .inr ⟨rfl, g, by simp, hg⟩
section
variable {X l : List Ed}
theorem up_fine (hX : mayE X = true) (hl : mayE l = true) : ∀ e ∈ X ++ l, badE e = false ∧ nowJ e.2 = false := fun e he => (List.mem_append.1 he).elim (may_fine hX e) (may_fine hl e)
theorem up_val (hX : mayE X = true) (hl : mayE l = true) : ∀ e ∈ X ++ l, mayR e.1 = true := fun e he => (List.mem_append.1 he).elim ((mayE_rise hX).1 e) ((mayE_rise hl).1 e)
theorem up_row (hX : mayE X = true) (hl : mayE l = true) (r : List Vl) : ∀ j ∈ jmps X r ++ jmps l r, tooJ j = false ∧ nowJ j = false := fun j hj =>
  (List.mem_append.1 hj).elim (fineJ (mayJ_rows hX r) j) (fineJ (mayJ_rows hl r) j)
theorem grp_mem (hl : mayE l = true) {g : Gp} (hg : g ∈ grp l) : g.2 = jmps l g.1 ∧ g.1 ∈ rowsL l := by
  rw [grp_eq (mayE_rise hl)] at hg
  obtain ⟨r, hr, rfl⟩ := List.mem_map.1 hg
  exact ⟨rfl, hr⟩
theorem row_none (hl : mayE l = true) {r : List Vl} (h : r ∉ rowsL l) : jmps l r = [] := by
  apply List.eq_nil_iff_forall_not_mem.2
  intro j hj
  exact h (((rowsL_ok (mayE_rise hl).1).2 r).2 ⟨_, jmps_mem.1 hj, rfl⟩)
theorem upOne_in (r : List Vl) : nmOp (jmps (X ++ l) r) = addOne X (r, jmps l r) := by rw [jmps_append]; rfl
theorem upOne_out (hX : mayE X = true) (hl : mayE l = true) {r : List Vl} (h : r ∉ rowsL l) : nmOp (jmps (X ++ l) r) = (0, jmps X r) := by
  rw [jmps_append, row_none hl h, List.append_nil]
  exact nm_self (mayJ_rows hX r)
theorem one_err (hX : mayE X = true) (hl : mayE l = true) {g : Gp} (hg : g ∈ grp l) : (addOne X g).1 = 0 ∨ (addOne X g).1 = 7 := by
  obtain ⟨h1, h2⟩ := grp_mem hl hg
  unfold addOne
  rw [h1]
  exact nm_err (up_row hX hl g.1)
/-- Whether a sum has room. -/
theorem up_err (hX : mayE X = true) (hl : mayE l = true) : (neE (X ++ l) = 0 ∧ (∀ g ∈ grp l, (addOne X g).1 = 0) ∧ (evL nmOp (byRows (X ++ l))).length ≤ 4096) ∨
    (neE (X ++ l) = 7 ∧ ((∃ g ∈ grp l, (addOne X g).1 = 7) ∨ ((∀ g ∈ grp l, (addOne X g).1 = 0) ∧ 4096 < (evL nmOp (byRows (X ++ l))).length))) := by
  rw [ne_ok (up_fine hX hl)]
  have h0 : ∀ g ∈ byRows (X ++ l), (nmOp g.2).1 = 0 ∨ (nmOp g.2).1 = 7 := fun g hg => by
    obtain ⟨r, -, rfl⟩ := List.mem_map.1 hg
    simp only
    rw [jmps_append]
    exact nm_err (up_row hX hl r)
  have hgr := grp_eq (mayE_rise hl)
  unfold eachE
  rcases evE_seven h0 with ⟨h1, h2⟩ | ⟨h1, g, hg, h2⟩
  · rw [h1, if_pos rfl]
    have h3 : ∀ g ∈ grp l, (addOne X g).1 = 0 := fun g hg => by
      obtain ⟨k1, k2⟩ := grp_mem hl hg
      have hm : g.1 ∈ rowsL (X ++ l) := ((rowsL_ok (up_val hX hl)).2 _).2 (by
        obtain ⟨e, he, e1⟩ := ((rowsL_ok (mayE_rise hl).1).2 _).1 k2
        exact ⟨e, List.mem_append_right _ he, e1⟩)
      have := h2 (g.1, jmps (X ++ l) g.1) (List.mem_map.2 ⟨_, hm, rfl⟩)
      simp only at this
      rw [jmps_append, ← k1] at this
      exact this
    by_cases hlen : 4096 < (evL nmOp (byRows (X ++ l))).length
    · rw [if_pos hlen]; exact .inr ⟨rfl, .inr ⟨h3, hlen⟩⟩
    · rw [if_neg hlen]; exact .inl ⟨rfl, h3, by omega⟩
  · rw [h1, if_neg (by decide)]
    refine .inr ⟨rfl, .inl ?_⟩
    obtain ⟨r, hr, rfl⟩ := List.mem_map.1 hg
    simp only at h2
    by_cases hm : r ∈ rowsL l
    · rw [upOne_in] at h2
      exact ⟨(r, jmps l r), by rw [hgr]; exact List.mem_map.2 ⟨r, hm, rfl⟩, h2⟩
    · rw [upOne_out hX hl hm] at h2; cases h2
theorem perm_sumI {A B : List Int} (p : A.Perm B) : A.sum = B.sum := by
  induction p with
  | nil => rfl
  | cons x _ ih => rw [List.sum_cons, List.sum_cons, ih]
  | swap x y l => rw [List.sum_cons, List.sum_cons, List.sum_cons, List.sum_cons]; omega
  | trans _ _ h1 h2 => exact h1.trans h2
/-- Sums over rows that are zero outside of some. -/
theorem sum_sub {α : Type} [DecidableEq α] (h : α → Int) {A B : List α} (ha : A.Nodup) (hb : B.Nodup) (hs : ∀ x ∈ A, x ∈ B) (hz : ∀ x ∈ B, x ∉ A → h x = 0) : (B.map h).sum = (A.map h).sum := by
  have hp : B.Perm (A ++ B.filter fun x => decide (x ∉ A)) := by
    refine (List.perm_ext_iff_of_nodup hb ?_).2 fun x => ?_
    · refine List.nodup_append.2 ⟨ha, hb.filter _, fun x hx y hy e => ?_⟩
      subst e
      have := (List.mem_filter.1 hy).2
      rw [decide_eq_true_iff] at this
      exact this hx
    · rw [List.mem_append, List.mem_filter, decide_eq_true_iff]
      constructor
      · intro hx
        by_cases hxa : x ∈ A
        · exact .inl hxa
        · exact .inr ⟨hx, hxa⟩
      · rintro (hx | hx)
        · exact hs x hx
        · exact hx.1
  have hz2 : ((B.filter fun x => decide (x ∉ A)).map h).sum = 0 := by
    have : ∀ C : List α, (∀ x ∈ C, h x = 0) → (C.map h).sum = 0 := by
      intro C
      induction C with
      | nil => intro _; rfl
      | cons x C ih => intro hc; rw [List.map_cons, List.sum_cons, hc x (by simp), ih fun y hy => hc y (by simp [hy])]; rfl
    exact this _ fun x hx => by
      obtain ⟨h1, h2⟩ := List.mem_filter.1 hx
      rw [decide_eq_true_iff] at h2
      exact hz x h1 h2
  rw [perm_sumI (hp.map h), List.map_append, List.sum_append, hz2]
  omega
theorem rlt_nodup {A : List (List Vl)} (h : A.Pairwise rlt) : A.Nodup := h.imp fun {a b} hab => rlt_ne hab
theorem ev_lenI (op : List Jp → Int × List Jp) (Y : List Ed) : ((evL op (byRows Y)).length : Int) = ((rowsL Y).map fun r => ((op (jmps Y r)).2.length : Int)).sum := by
  unfold evL byRows
  rw [List.flatMap_map]
  induction rowsL Y with
  | nil => rfl
  | cons r rows ih =>
    rw [List.flatMap_cons, List.map_cons, List.sum_cons, List.length_append, List.length_map, ← ih]
    simp only
    omega
theorem len_rowsI (hX : mayE X = true) : (X.length : Int) = ((rowsL X).map fun r => ((jmps X r).length : Int)).sum := by
  have e : evL (fun f => (0, f)) (byRows X) = X := ed_ext (rise_each _ (mayE_rise hX).1) (mayE_rise hX) fun r => by
    rw [jmps_each rfl (mayE_rise hX).1]
  have := ev_lenI (fun f => (0, f)) X
  rw [e] at this
  exact this
/-- How many edges a sum has: as many as there were, and what each row's function has more. -/
theorem up_len (hX : mayE X = true) (hl : mayE l = true) : ((evL nmOp (byRows (X ++ l))).length : Int) = X.length + ((grp l).map fun g => ((addOne X g).2.length : Int) - (jmps X g.1).length).sum := by
  have hv := up_val hX hl
  have nB := rlt_nodup (rowsL_ok hv).1
  have nX := rlt_nodup (rowsL_ok (mayE_rise hX).1).1
  have nl := rlt_nodup (rowsL_ok (mayE_rise hl).1).1
  have sX : ∀ r ∈ rowsL X, r ∈ rowsL (X ++ l) := fun r hr => by
    obtain ⟨e, he, e1⟩ := ((rowsL_ok (mayE_rise hX).1).2 _).1 hr
    exact ((rowsL_ok hv).2 _).2 ⟨e, List.mem_append_left _ he, e1⟩
  have sl : ∀ r ∈ rowsL l, r ∈ rowsL (X ++ l) := fun r hr => by
    obtain ⟨e, he, e1⟩ := ((rowsL_ok (mayE_rise hl).1).2 _).1 hr
    exact ((rowsL_ok hv).2 _).2 ⟨e, List.mem_append_right _ he, e1⟩
  rw [ev_lenI, len_rowsI hX, ← sum_sub (fun r => ((jmps X r).length : Int)) nX nB sX (fun r _ hr => by rw [row_none hX hr]; rfl)]
  rw [grp_eq (mayE_rise hl), show ((byRows l).map fun g => ((addOne X g).2.length : Int) - (jmps X g.1).length) = (rowsL l).map fun r => ((addOne X (r, jmps l r)).2.length : Int) - (jmps X r).length by unfold byRows; rw [List.map_map]; rfl]
  have k := sum_sub (fun r => ((nmOp (jmps (X ++ l) r)).2.length : Int) - (jmps X r).length) nl nB sl (fun r _ hr => by rw [upOne_out hX hl hr]; simp)
  have k2 : ((rowsL l).map fun r => ((nmOp (jmps (X ++ l) r)).2.length : Int) - (jmps X r).length) = (rowsL l).map fun r => ((addOne X (r, jmps l r)).2.length : Int) - (jmps X r).length := List.map_congr_left fun r hr => by rw [upOne_in]
  rw [k2] at k
  rw [← k]
  have : ∀ C : List (List Vl), (C.map fun r => ((nmOp (jmps (X ++ l) r)).2.length : Int)).sum = (C.map fun r => ((jmps X r).length : Int)).sum + (C.map fun r => ((nmOp (jmps (X ++ l) r)).2.length : Int) - (jmps X r).length).sum := by
    intro C
    induction C with
    | nil => rfl
    | cons r C ih => simp only [List.map_cons, List.sum_cons]; rw [ih]; omega
  exact this _
/-- Each row's function in a sum. -/
theorem up_fn (hX : mayE X = true) (hl : mayE l = true) (h0 : neE (X ++ l) = 0) (r : List Vl) : jmps (neR (X ++ l)) r = (nmOp (jmps (X ++ l) r)).2 := by
  obtain ⟨h1, h2, h3⟩ := ne_zero h0
  rw [h3, jmps_each (by rw [nmOp_nil]) (up_val hX hl)]
theorem up_fn_in (hX : mayE X = true) (hl : mayE l = true) (h0 : neE (X ++ l) = 0) (r : List Vl) : jmps (neR (X ++ l)) r = (addOne X (r, jmps l r)).2 := by rw [up_fn hX hl h0, upOne_in]
theorem up_fn_out (hX : mayE X = true) (hl : mayE l = true) (h0 : neE (X ++ l) = 0) {r : List Vl} (h : r ∉ rowsL l) : jmps (neR (X ++ l)) r = jmps X r := by rw [up_fn hX hl h0, upOne_out hX hl h]
/-- A sum is a table just if no row's function falls below none. -/
theorem up_tab (hX : tabE X = true) (hl : mayE l = true) (h0 : neE (X ++ l) = 0) : tabE (neR (X ++ l)) = (grp l).all fun g => decide (0 ≤ leV (addOne X g).2) := by
  have hXm : mayE X = true := by unfold tabE at hX; exact (Bool.and_eq_true_iff.1 hX).1
  have hm := ne_may h0
  rw [tabE_rows hm, grp_eq (mayE_rise hl)]
  have hrX : ∀ r ∈ rowsL X, 0 ≤ leV (jmps X r) := fun r hr => by
    rw [tabE_rows hXm] at hX
    have := List.all_eq_true.1 hX r hr
    rwa [decide_eq_true_iff] at this
  rw [Bool.eq_iff_iff, List.all_eq_true, List.all_eq_true]
  constructor
  · intro h g hg
    obtain ⟨r, hr, rfl⟩ := List.mem_map.1 hg
    rw [decide_eq_true_iff]
    have e := up_fn_in hXm hl h0 r
    by_cases hin : r ∈ rowsL (neR (X ++ l))
    · have := h r hin
      rw [decide_eq_true_iff, e] at this
      exact this
    · rw [← e, row_none hm hin]; decide
  · intro h r hr
    rw [decide_eq_true_iff]
    by_cases hin : r ∈ rowsL l
    · rw [up_fn_in hXm hl h0 r]
      have := h (r, jmps l r) (List.mem_map.2 ⟨r, hin, rfl⟩)
      rwa [decide_eq_true_iff] at this
    · rw [up_fn_out hXm hl h0 hin]
      by_cases hx : r ∈ rowsL X
      · exact hrX r hx
      · rw [row_none hXm hx]; decide
end
end Go.Proofs.YtobmjcehgpmfgaaGreat
