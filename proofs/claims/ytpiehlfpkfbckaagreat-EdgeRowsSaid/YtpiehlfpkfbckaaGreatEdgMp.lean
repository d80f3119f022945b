/-
  A helper of ours: no claim of its own. Layer 10 (edge): what is made of each row's function, by the document.
-/
import Derived.Test.YtpiehlfpkfbckaaGreatEdgMy
import Derived.Test.YtpiehlfpkfbckaaGreatEdgL
import Derived.Test.YtpiehlfpkfbckaaGreatEdgO
import Derived.Test.YtpiehlfpkfbckaaGreatEdgU
import Derived.Test.YtpiehlfpkfbckaaGreatEdgH
import Derived.Test.YtpiehlfpkfbckaaGreatStepZ
set_option linter.unusedVariables false
set_option linter.unusedSimpArgs false
namespace Go.Proofs.YtpiehlfpkfbckaaGreat
open Go.RowKit
attribute [local go_sem] GW.cell GW.frozen In.eq_true In.le_true In.ne In.ne' In.ne_add In.ne_add' In.lt_add Upto.le_true Upto.le_add Upto.lt_add
theorem own_two {w w2 : World} {base : Nat} {L M : List Ve} {v u x : Value} (hl : Ew w [] v L) (hm : Ew w [] u M) (hX : Ext w w2) (h : w2.ownsRow base 56 3 x (0 + L.length + M.length) (([] ++ ec L) ++ ec M)) : Ew w2 [] x (L ++ M) := by
  rw [Nat.zero_add, List.nil_append] at h
  refine ⟨Sl.own (own_appE h) (by simp), fun p hp => ?_⟩
  rcases List.mem_append.1 hp with hp | hp
  · exact Sl.ext (hl.2 p hp) hX
  · exact Sl.ext (hm.2 p hp) hX
theorem ne_may {l : List Ed} (h : neE l = 0) : mayE (neR l) = true := by
  obtain ⟨h1, h2, h3⟩ := ne_zero h
  obtain ⟨k1, k2, k3⟩ := each_zero h2
  have hv : ∀ e ∈ l, mayR e.1 = true := fun e he => by
    have := (h1 e he).1
    unfold badE at this
    cases hm : mayR e.1
    · rw [hm] at this; simp at this
    · rfl
  rw [h3]
  refine may_each (by rw [nmOp_nil]) hv k2 fun r => ?_
  have h0 := op_rows (op := nmOp) (by rw [nmOp_nil]) hv k1 r
  unfold nmOp at h0 ⊢
  simp only at h0 ⊢
  unfold nmR
  rw [if_pos h0]
  unfold nmE at h0
  split at h0
  · cases h0
  · split at h0
    · cases h0
    · unfold full at h0
      split at h0
      · assumption
      · cases h0
/-- A row once: what its function amounts to. -/
theorem once_jmps (r : List Vl) (f t : Int) : jmps [(r, (f, 1)), (r, (t, -1))] r = [(f, 1), (t, -1)] := by simp [jmps]
theorem once_nm {f t : Int} (h : smayB f t = true) : nmL [(f, 1), (t, -1)] = if t = 1125899906842624 then [(f, 1)] else [(f, 1), (t, -1)] := by
  obtain ⟨h1, h2, h3, h4, h5⟩ := mayB_lt h
  have hf : f ≠ 1125899906842624 := by omega
  have j1 : jv [(f, 1), (t, -1)] f = 1 := by simp only [jv]; rw [if_pos (Int.le_refl _), if_neg (by omega)]; rfl
  have j2 : jv [(f, 1), (t, -1)] t = 0 := by simp only [jv]; rw [if_pos (by omega), if_pos (Int.le_refl _)]; rfl
  unfold nmL inF
  by_cases ht : t = 1125899906842624
  · rw [if_pos ht, List.filter_cons_of_pos (by simpa using hf), List.filter_cons_of_neg (by simpa using ht), List.filter_nil]
    show tell _ [f] 0 = _
    simp only [tell, j1]
    rfl
  · rw [if_neg ht, List.filter_cons_of_pos (by simpa using hf), List.filter_cons_of_pos (by simpa using ht), List.filter_nil]
    have hp : plc [] [((f, 1) : Jp), (t, -1)] = [f, t] := by
      show ins (ins [] f) t = _
      have : ins [] f = [f] := rfl
      rw [this]
      unfold ins
      rw [if_neg (by simp; omega), List.filter_cons_of_pos (by simpa using h1), List.filter_cons_of_neg (by simp; omega)]
      rfl
    rw [hp]
    simp only [tell, j1, j2]
    rfl
theorem once_ok {r : List Vl} {f t : Int} (h : ofE r f t = 0) : mayR r = true ∧ mayE (ofR r f t) = true ∧ tabE (ofR r f t) = true ∧ atV (jmps (ofR r f t) r) f = 1 := by
  have ha : mayR r = true := by
    unfold ofE at h
    cases hh : mayR r
    · rw [hh] at h; simp at h
    · rfl
  have hb : smayB f t = true := by
    unfold ofE at h
    rw [ha] at h
    cases hh : smayB f t
    · rw [hh] at h; simp at h
    · rfl
  have hn : neE [(r, (f, 1)), (r, (t, -1))] = 0 := by unfold ofE at h; rw [ha, hb] at h; simpa using h
  have hR : ofR r f t = neR [(r, (f, 1)), (r, (t, -1))] := by unfold ofR; rw [if_pos h]
  have hm : mayE (ofR r f t) = true := by rw [hR]; exact ne_may hn
  obtain ⟨h1, h2, h3⟩ := ne_zero hn
  have hv : ∀ e ∈ [((r, (f, 1)) : Ed), (r, (t, -1))], mayR e.1 = true := fun e he => by
    simp at he; rcases he with rfl | rfl <;> exact ha
  obtain ⟨k1, k2, k3⟩ := each_zero h2
  have hj : jmps (ofR r f t) r = nmL [(f, 1), (t, -1)] := by
    rw [hR, h3, jmps_each (by rw [nmOp_nil]) hv r, once_jmps]
    have h0 := op_rows (op := nmOp) (by rw [nmOp_nil]) hv k1 r
    rw [once_jmps] at h0
    unfold nmOp at h0 ⊢
    simp only at h0 ⊢
    unfold nmR
    rw [if_pos h0]
  have hmj : mayJ (nmL [(f, 1), (t, -1)]) = true := by rw [← hj]; exact mayJ_rows hm r
  obtain ⟨g1, g2, g3, g4, g5⟩ := mayB_lt hb
  have hnm := once_nm hb
  have hlow : jv (nmL [(f, 1), (t, -1)]) (-1) = 0 := by
    rw [hnm]; split
    · simp only [jv]; rw [if_neg (by omega)]; rfl
    · simp only [jv]; rw [if_neg (by omega), if_neg (by omega)]; rfl
  have hat : jv (nmL [(f, 1), (t, -1)]) f = 1 := by
    rw [hnm]; split
    · simp only [jv]; rw [if_pos (Int.le_refl _)]; rfl
    · simp only [jv]; rw [if_pos (Int.le_refl _), if_neg (by omega)]; rfl
  refine ⟨ha, hm, ?_, by unfold atV; rw [hj, if_pos hmj, hat]⟩
  rw [tabE_rows hm, List.all_eq_true]
  intro q hq
  rw [decide_eq_true_iff]
  have hq2 : q = r := by
    have hne : jmps (ofR r f t) q ≠ [] := (mem_rows (mayE_rise hm).1 q).1 hq
    rw [hR, h3, jmps_each (by rw [nmOp_nil]) hv q] at hne
    by_cases e : q = r
    · exact e
    · exfalso; apply hne
      have : jmps [((r, (f, 1)) : Ed), (r, (t, -1))] q = [] := by simp [jmps, Ne.symm e]
      rw [this, nmOp_nil]
  subst hq2
  unfold leV
  rw [hj, if_pos hmj, hlow]
  unfold leF
  have hb2 : ∀ j ∈ nmL [(f, 1), (t, -1)], 0 ≤ jv (nmL [(f, 1), (t, -1)]) j.1 := by
    intro j hj
    rw [hnm] at hj ⊢
    split at hj
    · rename_i e
      rw [if_pos e]
      simp at hj
      subst hj
      simp [jv]
    · rename_i e
      rw [if_neg e]
      simp at hj
      rcases hj with rfl | rfl
      · simp only [jv]; rw [if_pos (Int.le_refl _), if_neg (by omega)]; decide
      · simp only [jv]; rw [if_pos (by omega), if_pos (Int.le_refl _)]; decide
  have key : ∀ (g : List Jp) (m : Int), 0 ≤ m → (∀ j ∈ g, 0 ≤ jv (nmL [(f, 1), (t, -1)]) j.1) → 0 ≤ g.foldl (fun m j => min m (jv (nmL [(f, 1), (t, -1)]) j.1)) m := by
    intro g
    induction g with
    | nil => intro m h _; exact h
    | cons a g ih =>
      intro m h hg
      refine ih _ ?_ fun j hj => hg j (by simp [hj])
      have := hg a (by simp)
      show (0 : Int) ≤ min m (jv (nmL [(f, 1), (t, -1)]) a.1)
      omega
  exact key _ _ (Int.le_refl _) hb2
set_option maxHeartbeats 4000000 in
set_option maxRecDepth 100000 in
theorem refEdgeOf_c (r : List Vl) (f t : Int) (u : Value) (w : World) (hr : Rw w [] u r) : Calls Tryz.prog 20 #[u, .agg #[.int .i64 f, .int .i64 t]] w fun e w' => ∃ v' M, e = .returned (.tuple #[v', .int .i64 (ofE r f t)]) ∧ eds M = ofR r f t ∧ OwnEr w' w.heap.size v' M ∧ Ext w w' := by
  have h1 := hide (fun w' (hX : Ext w w') => refRowMay_c r u w' (Sl.ext hr hX))
  have hrw := hide hr
  obtain ⟨RA, rcap, rfl⟩ := rw_val hr
  have hX0 := hide ((Ext.refl w).alloc (.cells #[.int .i64 f, .int .i64 t] 33))
  obtain ⟨E, hE⟩ : ∃ E, E = ofE r f t := ⟨_, rfl⟩
  obtain ⟨R, hR⟩ : ∃ R, R = ofR r f t := ⟨_, rfl⟩
  rw [← hE, ← hR]
  unfold ofR at hR
  rw [← hE] at hR
  unfold ofE at hE
  clear hr
  cases ha : mayR r
  · rw [ha, if_neg (by decide)] at hE
    rw [ha] at h1
    subst hE
    replace hR : R = [] := by rw [hR, if_neg (by decide)]
    replace hR := hide hR
    go_enter Tryz.func20, Tryz.ntmps20
    go_wp2_with (go_at_call 24; (with_reducible refine seq_gw (h1.out _ hX0.out) ?_); intro g)
    go_returns
    exact ⟨_, [], rfl, by rw [hR.out]; rfl, OwnEr.nil _ _, hX0.out.trans g.grown⟩
  rw [ha, if_pos rfl] at hE
  rw [ha] at h1
  cases hb : smayB f t
  · rw [hb, if_neg (by decide)] at hE
    subst hE
    replace hR : R = [] := by rw [hR, if_neg (by decide)]
    replace hR := hide hR
    have h2 := hide (fun w => srefMay_c f t w)
    rw [hb] at h2
    go_enter Tryz.func20, Tryz.ntmps20
    go_wp2_with (first | (go_at_call 24; (with_reducible refine seq_gw (h1.out _ hX0.out) ?_); intro g) | (go_at_call 58; (with_reducible refine seq_gw' (h2.out _) ?_); intro g2))
    go_returns
    exact ⟨_, [], rfl, by rw [hR.out]; rfl, OwnEr.nil _ _, hX0.out.trans g2.grown⟩
  rw [hb, if_pos rfl] at hE
  have h2 := hide (fun w => srefMay_c f t w)
  rw [hb] at h2
  have hR2 : Hid (R = neR [(r, (f, 1)), (r, (t, -1))]) := by
    show R = _
    rw [hR]
    split
    · rfl
    · rename_i h; rw [hE] at h; rw [neR_bad h]
  replace hE := hide hE
  clear hR ha hb
  go_enter Tryz.func20, Tryz.ntmps20
  go_wp2_with (first | (go_at_call 24; (with_reducible refine seq_gw (h1.out _ hX0.out) ?_); intro g) | (go_at_call 58; (with_reducible refine seq_gw' (h2.out _) ?_); intro g2) | (go_at_call 13; refine (refEdgeNorm_c [(.slice RA r.length rcap, r, (f, 1)), (.slice RA r.length rcap, r, (t, -1))] (by simp) _ _ (lit2 _ r (f, 1) (t, -1) g2.val (Sl.ext hrw.out (hX0.out.trans g2.grown)))).mono ?_; rintro ee w3 ⟨v3, M, rfl, hM, ho3, hX3⟩))
  go_returns
  exact ⟨_, M, by rw [hE.out]; rfl, by rw [hM, hR2.out]; rfl, ho3.lower (by have := hX0.out.size; have := g2.grown.size; simp only [World.size_alloc] at *; omega), (hX0.out.trans g2.grown).trans (((Ext.refl _).alloc _).trans hX3)⟩
set_option maxHeartbeats 4000000 in
set_option maxRecDepth 100000 in
theorem refEdgeAdd_c (L M : List Ve) (hLM : L.length + M.length ≤ 1024) (v u : Value) (w : World) (hl : Ew w [] v L) (hm : Ew w [] u M) : Calls Tryz.prog 32 #[v, u] w fun e w' => ∃ v' N, e = .returned (.tuple #[v', .int .i64 (adE (eds L) (eds M))]) ∧ eds N = adR (eds L) (eds M) ∧ OwnEr w' w.heap.size v' N ∧ Ext w w' := by
  have h1 := hide (fun w' (hX : Ext w w') => refEdgeMay_c L v w' (hl.ext hX))
  have h2 := hide (fun w' (hX : Ext w w') => refEdgeMay_c M u w' (hm.ext hX))
  have hX0 := hide (Ext.refl w)
  have hl' := hide hl
  have hm' := hide hm
  obtain ⟨A, cap, rfl, hlc, hlm, -⟩ := ew_form hl
  obtain ⟨B, cap2, rfl, hmc, hmm, -⟩ := ew_form hm
  obtain ⟨E, hE⟩ : ∃ E, E = adE (eds L) (eds M) := ⟨_, rfl⟩
  obtain ⟨R, hR⟩ : ∃ R, R = adR (eds L) (eds M) := ⟨_, rfl⟩
  rw [← hE, ← hR]
  unfold adR at hR
  rw [← hE] at hR
  unfold adE at hE
  clear hl hm
  cases ha : mayE (eds L)
  · rw [ha, Bool.false_and, if_neg (by decide)] at hE
    rw [ha] at h1
    subst hE
    replace hR : R = [] := by rw [hR, if_neg (by decide)]
    replace hR := hide hR
    go_enter Tryz.func32, Tryz.ntmps32
    go_wp2_with (go_at_call 18; (with_reducible refine seq_gw (h1.out _ hX0.out) ?_); intro g)
    go_returns
    exact ⟨_, [], rfl, by rw [hR.out]; rfl, OwnEr.nil _ _, g.grown⟩
  cases hb : mayE (eds M)
  · rw [ha, hb, Bool.true_and, if_neg (by decide)] at hE
    rw [ha] at h1
    rw [hb] at h2
    subst hE
    replace hR : R = [] := by rw [hR, if_neg (by decide)]
    replace hR := hide hR
    go_enter Tryz.func32, Tryz.ntmps32
    go_wp2_with (first | (go_at_call 18; (with_reducible refine seq_gw (h1.out _ hX0.out) ?_); intro g) | (go_at_call 18; (with_reducible refine seq_gw' (h2.out _ g.grown) ?_); intro g2))
    go_returns
    exact ⟨_, [], rfl, by rw [hR.out]; rfl, OwnEr.nil _ _, g2.grown⟩
  rw [ha, hb, Bool.true_and, if_pos rfl] at hE
  rw [ha] at h1
  rw [hb] at h2
  have hR2 : Hid (R = neR (eds L ++ eds M)) := by
    show R = _
    rw [hR]
    split
    · rfl
    · rename_i h; rw [hE] at h; rw [neR_bad h]
  have hlit := hide (fun (W : World) => World.ownsRow_lit (base := W.heap.size) (e := 56) (size := 3) W #[] 0 (Nat.le_refl _) (by decide) rfl)
  have heq : Hid (eds (L ++ M) = eds L ++ eds M) := by show _ = _; simp [eds]
  replace hE := hide hE
  clear hR ha hb
  go_enter Tryz.func32, Tryz.ntmps32
  go_wp2_with (first | (go_at_call 18; (with_reducible refine seq_gw (h1.out _ hX0.out) ?_); intro g) | (go_at_call 18; (with_reducible refine seq_gw' (h2.out _ g.grown) ?_); intro g2) | (at_builtin; first | (refine wpl_app tEdg rfl (.tmp 14) (.tmp 15) rfl rfl (hlit.out g2.val) rfl (src_sl Tryz.underlying22 (hl'.out.ext (g2.grown.alloc _)).1 (hl'.out.ext (g2.grown.alloc (.cells #[] 56))).one (by omega)) (by unfold maxLen; omega) (by omega) (by simp) ?_; intro v1 w1 ho1 hg1 _; have hX1 := hide (ext_grown ((Ext.refl g2.val).alloc (.cells #[] 56)) hg1 (fun q hq => ((hlit.out g2.val).lt q hq).1))) | (refine wpl_app tEdg rfl (.tmp 16) (.tmp 17) rfl rfl ho1 rfl (src_sl Tryz.underlying22 (hm'.out.ext (g2.grown.trans hX1.out)).1 (hm'.out.ext (g2.grown.trans hX1.out)).one (by omega)) (by unfold maxLen; omega) (by omega) hX1.out.size ?_; intro v2 w2 ho2 hg2 _; have hX2 := hide (ext_grown hX1.out hg2 (fun q hq => (ho1.lt q hq).1)); have hX4 := hide (g2.grown.trans hX2.out))) | (go_at_call 13; refine (refEdgeNorm_c (L ++ M) (by rw [List.length_append]; omega) _ _ (own_two hl'.out hm'.out hX4.out ho2)).mono ?_; rintro ee w5 ⟨v5, N, rfl, hN, ho5, hX5⟩))
  go_returns
  exact ⟨_, N, by rw [hE.out]; rfl, by rw [hN, hR2.out, heq.out], ho5.lower hX4.out.size, hX4.out.trans hX5⟩
end Go.Proofs.YtpiehlfpkfbckaaGreat
set_option linter.unusedVariables false
set_option linter.unusedSimpArgs false
namespace Go.Proofs.YtpiehlfpkfbckaaGreat
open Go.RowKit
attribute [local go_sem] GW.cell GW.frozen In.eq_true In.le_true In.ne In.ne' In.ne_add In.ne_add' In.lt_add Upto.le_true Upto.le_add Upto.lt_add Oper.semAt_some wide_depth wide_fn
set_option maxHeartbeats 4000000 in
set_option maxRecDepth 100000 in
theorem edgeBuild_c (r : List Vl) (f : List Jp) (u v : Value) (w : World) (hr : Rw w [] u r) (hf : Jw w [] v f) : Calls Tryz.prog 29 #[u, v] w fun e w' => ∃ v' M, e = .returned v' ∧ eds M = (if mayR r && mayJ f then f.map (fun j => (r, j)) else []) ∧ OwnEr w' w.heap.size v' M ∧ Ext w w' := by
  have h1 := hide (rowMay_c r u w hr)
  have h2 := hide (fun w' (hX : Ext w w') => stepMay_c f v w' (Sl.ext hf hX))
  have hr' := hide hr
  have hf' := hide hf
  obtain ⟨U, ucap, rfl⟩ := rw_val hr
  obtain ⟨V, vcap, rfl, -, -, -⟩ := jw_form hf
  obtain ⟨R, hR⟩ : ∃ R, R = (if mayR r && mayJ f then f.map (fun j => (r, j)) else []) := ⟨_, rfl⟩
  rw [← hR]
  clear hr hf
  cases ha : mayR r
  · rw [ha] at h1
    replace hR := hide (show eds [] = R by rw [hR, ha]; rfl)
    go_enter Tryz.func29, Tryz.ntmps29
    go_wp2_with (go_at_call 56; (with_reducible refine seq_gw h1.out ?_); intro g)
    go_returns
    exact ⟨_, [], rfl, hR.out, OwnEr.nil _ _, g.grown⟩
  rw [ha] at h1
  have hr8 := mayR_len ha
  cases hb : mayJ f
  · rw [hb] at h2
    replace hR := hide (show eds [] = R by rw [hR, ha, hb]; rfl)
    go_enter Tryz.func29, Tryz.ntmps29
    go_wp2_with (first | (go_at_call 56; (with_reducible refine seq_gw h1.out ?_); intro g) | (go_at_call 52; (with_reducible refine seq_gw' (h2.out _ g.grown) ?_); intro g2))
    go_returns
    exact ⟨_, [], rfl, hR.out, OwnEr.nil _ _, g2.grown⟩
  rw [hb] at h2
  have hfl := mayJ_len hb
  replace hR := hide (show (f.map fun j => (r, j)) = R by rw [hR, ha, hb]; rfl)
  go_enter Tryz.func29, Tryz.ntmps29
  go_wp2_with (first | (go_at_call 56; (with_reducible refine seq_gw h1.out ?_); intro g) | (go_at_call 52; (with_reducible refine seq_gw' (h2.out _ g.grown) ?_); intro g2) | (go_at_call 64; refine (edgesOf_c r f _ _ _ (Sl.ext hr'.out g2.grown) hr8 (Sl.ext hf'.out g2.grown) (by omega)).mono ?_; rintro ee w3 ⟨v3, M, rfl, hM, ho3, hX3⟩))
  go_returns
  exact ⟨_, M, rfl, hM.trans hR.out, ho3.lower g2.grown.size, g2.grown.trans hX3⟩

/-- A slice of jumps lies in no box of a slice. -/
theorem jw_box {W : World} {v : Value} {J : List Jp} {b : Nat} {T : TypeId} {A : Option Addr} {n cap : Nat} (h : Jw W [] v J) (o : Ob W b T [.slice A n cap]) : Jw W [b] v J := by
  obtain ⟨B, k, rfl, h1, h2, h3, h4⟩ := h
  refine ⟨B, k, rfl, h1, h2, h3, ?_⟩
  rcases h4 with h4 | ⟨c, p, e, -, hc⟩
  · exact .inl h4
  · rcases J with _ | ⟨j, J⟩
    · exact .inl rfl
    · refine .inr ⟨c, p, e, ?_, hc⟩
      intro hcb
      obtain rfl : c = b := by simpa using hcb
      have q := hc 0 (.int .i64 j.1) rfl
      rw [cell_of_row W c (p + 0) _ T (0, 0) o] at q
      rcases p with _ | p
      · simp at q
      · simp at q
theorem jmps_none {l : List Ed} {r : List Vl} (h : Rise l) (k : ∀ g ∈ grp l, g.1 ≠ r) : jmps l r = [] := by
  obtain ⟨-, k2, -⟩ := grp_rows h
  rcases hj : jmps l r with _ | ⟨j, t⟩
  · rfl
  · have : j ∈ jmps l r := by rw [hj]; simp
    obtain ⟨g, hg, e⟩ := List.mem_map.1 ((k2 r).2 ⟨_, jmps_mem.1 this, rfl⟩)
    exact absurd e (k g hg)

set_option maxHeartbeats 8000000 in
set_option maxRecDepth 100000 in
theorem edgeJumps_c (L : List Ve) (r : List Vl) (v u : Value) (w : World) (hC : Ew w [] v L) (hu : Rw w [] u r) : Calls Tryz.prog 23 #[v, u] w fun e w' => ∃ v', e = .returned v' ∧ Jw w' [] v' (if mayE (eds L) then jmps (eds L) r else []) ∧ Ext w w' := by
  have h1 := hide (fun w' (hX : Ext w w') => edgeMay_c L v w' (hC.ext hX))
  obtain ⟨A, cap, rfl, hlc, hlm, -⟩ := ew_form hC
  obtain ⟨U, ucap, rfl⟩ := rw_val hu
  unfold maxLen at hlm
  obtain ⟨Wb, hWb⟩ : ∃ Wb, Wb = (w.alloc (.cells #[.slice U r.length ucap] 31)).alloc (.cells #[.slice none 0 0] 36) := ⟨_, rfl⟩
  have hX0 : Ext w Wb := by rw [hWb]; exact ((Ext.refl w).alloc _).alloc _
  have a0 : Ob Wb w.heap.size 31 [.slice U r.length ucap] := by rw [hWb]; exact (Ob.new w 31 [.slice U r.length ucap]).alloc _
  have a1 : Ob Wb (w.heap.size + 1) 36 [.slice none 0 0] := by rw [hWb]; have := Ob.new (w.alloc (.cells #[.slice U r.length ucap] 31)) 36 [.slice none 0 0]; rwa [World.size_alloc] at this
  have hu' := hide hu
  refine calls_marks Tryz.func23 rfl ?_
  simp only [Tryz.ntmps23, List.size_toArray, List.length_cons, List.length_nil, Nat.reduceAdd, Nat.reduceSub, Array.replicate_succ, Array.replicate_zero, List.push_toArray, List.append_toArray, List.nil_append, List.cons_append]
  have hX0h := hide hX0
  cases ha : mayE (eds L)
  · rw [ha] at h1
    go_wp2_with (go_at_call 15; (with_reducible refine seq_gw (h1.out _ (by rw [← hWb]; exact hX0h.out)) ?_); intro g)
    have o2 : Ob (g.val.setCell ⟨w.heap.size + 1, 0, none⟩ (.slice none 0 0)) (w.heap.size + 1) 36 [.slice none 0 0] := ((hWb ▸ a1).ext g.grown).set 0 _
    have q2 := o2.cell 0 rfl
    exact ret_plain (v := .slice none 0 0) (by simp [results, Tryz.f23, go_sem, q2]) ⟨_, rfl, Sl.nil _ _ _, ((hWb ▸ hX0).trans g.grown).setCell (p := ⟨w.heap.size + 1, 0, none⟩) (by simp) _⟩
  have hL4 : L.length ≤ 4096 := by have := (mayE_iff.1 ha).1; simpa [eds] using this
  rw [ha] at h1
  obtain ⟨R, hR⟩ : ∃ R, R = jmps (eds L) r := ⟨_, rfl⟩
  rw [if_pos rfl, ← hR]
  have hRf : Hid (∀ g ∈ grp (eds L), g.1 = r → g.2 = R) := fun g hg h => by
    rw [hR, ← h]; exact ((grp_rows (mayE_rise ha)).2.2 g hg).1
  have hRt : Hid ((∀ g ∈ grp (eds L), g.1 ≠ r) → R = []) := fun h => by rw [hR]; exact jmps_none (mayE_rise ha) h
  clear hR ha
  replace hC := hide hC
  go_wp2_with (first | (go_at_call 15; (with_reducible refine seq_gw (h1.out _ (by rw [← hWb]; exact hX0h.out)) ?_); intro g2) | (go_at_call 51; refine (functions_c _ _ _ _).mono ?_; rintro ee w1 ⟨b, rfl, hb, hle, hX1⟩))
  have hX2 := hide (((hWb ▸ hX0 : Ext w ((w.alloc (.cells #[.slice U r.length ucap] 31)).alloc (.cells #[.slice none 0 0] 36))).trans g2.grown).trans hX1)
  have p0 : Ob w1 w.heap.size 31 [.slice U r.length ucap] := ((hWb ▸ a0 : Ob ((w.alloc (.cells #[.slice U r.length ucap] 31)).alloc (.cells #[.slice none 0 0] 36)) w.heap.size 31 [.slice U r.length ucap]).ext g2.grown).ext hX1
  have p1 : Ob w1 (w.heap.size + 1) 36 [.slice none 0 0] := ((hWb ▸ a1 : Ob ((w.alloc (.cells #[.slice U r.length ucap] 31)).alloc (.cells #[.slice none 0 0] 36)) (w.heap.size + 1) 36 [.slice none 0 0]).ext g2.grown).ext hX1
  have hz2 := hX2.out.size
  have hlw := p1.lt
  clear h1 hX1 hle hWb a0 a1 hX0 hX0h
  have hb1 : w.heap.size < w.heap.size + 1 := by omega
  generalize hb1e : w.heap.size + 1 = b1 at *
  refine wp_range (xs := grp (eds L)) rfl (enters_of Tryz.func93 (by kernel_rfl) rfl) (functions_seq L _ w w1 b hC.out (by omega) hX2.out hb) (Ext.refl _) hX2.out.size (fun x vs W h => h.size) (fun x vs => Hg.stab x vs)
    (fun k W => (Ob W w.heap.size 31 [.slice U r.length ucap] ∧ Ob W b1 36 [.slice none 0 0]) ∧ (Ext w W ∧ ∀ g ∈ (grp (eds L)).take k, g.1 ≠ r))
    (fun c k W => (c = .ret ∧ ∃ fv, Ob W b1 36 [fv] ∧ Jw W [] fv R) ∧ Ext w W)
    (fun k => ((Stab.ob _ _ _).and (Stab.ob _ _ _)).and ((Stab.of_ext hz2).and (Stab.pure _)))
    (fun c k => ((Stab.pure _).and (Stab.ex fun fv => (Stab.ob _ _ _).and (Stab.sl _ _ _ _ _))).and (Stab.of_ext hz2))
    ⟨⟨p0, p1⟩, hX2.out, by simp⟩
    (fun k x vs a' _ => ∃ q f, vs = #[q, f] ∧ a' = { tmps := #[.slice A L.length cap, .slice U r.length ucap, undef, .pointer (some ⟨w.heap.size, 0, none⟩), .pointer (some ⟨b1, 0, none⟩), q, f, .slice A L.length cap, .bool true, .bool false, .slice A L.length cap, .func (.func 93) #[] #[.pointer (some ⟨b, 0, none⟩)], q, f, undef, undef, undef, undef], defers := [] })
    (fun k x vs a' => Stab.pure _) ?assign ?body ?done ?stop
  case assign =>
    rintro LL k x vs W K _ ⟨q, f, rfl, -, -⟩ hK
    gi_wp2
    exact hK _ _ (Ext.refl _) ⟨q, f, rfl, rfl⟩
  case body =>
    rintro LL k x vs a' W hx ⟨⟨o0, o1⟩, hXw, hno⟩ ⟨r', f', e', hr, hf⟩ ⟨q1, f, rfl, rfl⟩
    obtain ⟨rfl, rfl⟩ : q1 = r' ∧ f = f' := by simpa using e'
    obtain ⟨q, J⟩ := x
    have q0 := o0.cell 0 rfl
    have c1 := o1.cell 0 rfl
    have hzW := hXw.size
    have hmem : ∀ y ∈ [b1], ∃ T vs, Ob W y T vs := by intro y hy; simp at hy; subst hy; exact ⟨_, _, o1⟩
    replace hmem := hide hmem
    have hltW := o0.lt
    have hlt1 := o1.lt
    have hfr := o1.free 0
    have hgm : (q, J) ∈ grp (eds L) := List.mem_of_getElem? hx
    haveI : In w.heap.size W := ⟨hltW⟩
    haveI : In b1 W := ⟨hlt1⟩
    have hcall := hide (rowSame_c hr (Sl.ext hu'.out hXw))
    have hfk := hide hf
    obtain ⟨QA, qcap, rfl⟩ := rw_val hr
    obtain ⟨JA, jcap, rfl, -, -, -⟩ := jw_form hf
    by_cases hm : q = r
    · rw [decide_eq_true hm] at hcall
      have hJR := hRf.out (q, J) hgm hm
      simp only at hJR
      replace hJR := hide hJR
      replace hm := hide hm
      clear hx hgm hr hf
      gi_wp2_with (gi_at_call 62; (with_reducible refine seq_gi hcall.out ?_); intro g)
      have o2 := o1.ext g.grown
      have hj2 : Jw (g.val.setCell ⟨b1, 0, none⟩ (.slice JA J.length jcap)) [] (.slice JA J.length jcap) R := by
        rw [← hJR.out]
        exact Sl.less (Sl.set (jw_box (Sl.ext hfk.out g.grown) o2) ⟨b1, 0, none⟩ _ (by simp)) (by simp)
      exact ⟨keeps_fr (S := [b1]) ((Fr.of_ext g.grown).setCell _ _ (.inl (by simp))) hmem.out, ⟨rfl, _, o2.set 0 _, hj2⟩, (hXw.trans g.grown).setCell (p := ⟨b1, 0, none⟩) (by show w.heap.size ≤ b1; omega) _⟩
    · rw [decide_eq_false hm] at hcall
      have hno2 := hide (show ∀ g ∈ (grp (eds L)).take (k + 1), g.1 ≠ r from fun g hg => by
        rw [List.take_add_one, hx] at hg
        rcases List.mem_append.1 hg with hg | hg
        · exact hno g hg
        · obtain rfl : g = (q, J) := by simpa using hg
          exact hm)
      replace hno := hide hno
      replace hm := hide hm
      clear hx hgm hr hf
      gi_wp2_with (gi_at_call 62; (with_reducible refine seq_gi hcall.out ?_); intro g)
      exact ⟨keeps_ext g.grown, below_fr (S := []) (Fr.of_ext g.grown) hzW (by simp), ⟨o0.ext g.grown, o1.ext g.grown⟩, hXw.trans g.grown, hno2.out⟩
  case done =>
    rintro D W hD ⟨⟨o0, o1⟩, hXw, hno⟩ hK
    rw [List.take_of_length_le (Nat.le_refl _)] at hno
    have hRf2 := hide (hRt.out hno)
    have q1 := o1.cell 0 rfl
    have hfr := o1.free 0
    have hlt1 := o1.lt
    haveI : In b1 W := ⟨hlt1⟩
    clear hno
    go_wp2
    have hK2 := (KeepsOthers.setCell W ⟨b1, 0, none⟩ (.slice none 0 0)).same D _ hK rfl
    have o2 : Ob (W.setCell ⟨b1, 0, none⟩ (.slice none 0 0)) b1 36 [.slice none 0 0] := o1.set 0 _
    have q2 := (ob_put (o' := .deferred none) hK2 rfl o2).cell 0 rfl
    refine ret_mark hK2 (v := .slice none 0 0) ?_ ⟨_, rfl, by rw [hRf2.out]; exact Sl.nil _ _ _, put_ext (hXw.setCell (p := ⟨b1, 0, none⟩) (by show w.heap.size ≤ b1; omega) _) (by omega) _⟩
    simp [results, Tryz.f23, go_sem, q2]
  case stop =>
    rintro D c k W hD hk ⟨⟨rfl, fv, o1, hj⟩, hXw⟩ hK
    replace hj := hide hj
    go_wp2
    have q2 := (ob_put (o' := .deferred none) hK rfl o1).cell 0 rfl
    refine ret_mark hK (v := fv) ?_ ⟨_, rfl, (Stab.sl (B := 0) _ _ _ _ _).put W D _ _ hj.out (Nat.zero_le _) hK rfl, put_ext hXw (by omega) _⟩
    simp [results, Tryz.f23, go_sem, q2]
end Go.Proofs.YtpiehlfpkfbckaaGreat
set_option linter.unusedVariables false
set_option linter.unusedSimpArgs false
namespace Go.Proofs.YtpiehlfpkfbckaaGreat
open Go.RowKit
attribute [local go_sem] GW.cell GW.frozen In.eq_true In.le_true In.ne In.ne' In.ne_add In.ne_add' In.lt_add Upto.le_true Upto.le_add Upto.lt_add
set_option maxHeartbeats 8000000 in
set_option maxRecDepth 100000 in
theorem refMapNeg_c (L : List Ve) (t : Int) (hL : L.length ≤ 1024) (v : Value) (w : World) (hC0 : Ew w [] v L) : Calls Tryz.prog 34 #[v, .int .i64 0, .int .i64 t] w fun e w' => ∃ v' M, e = .returned (.tuple #[v', .int .i64 (mpE ngOp (eds L))]) ∧ eds M = mpR ngOp (eds L) ∧ OwnEr w' w.heap.size v' M ∧ Ext w w' := by
  have h1 := hide (refEdgeMay_c L v w hC0)
  obtain ⟨A, cap, rfl, hlc, hlm, -⟩ := ew_form hC0
  unfold maxLen at hlm
  have hC := hide hC0
  obtain ⟨E, hE⟩ : ∃ E, E = mpE ngOp (eds L) := ⟨_, rfl⟩
  obtain ⟨R, hR⟩ : ∃ R, R = mpR ngOp (eds L) := ⟨_, rfl⟩
  rw [← hE, ← hR]
  unfold mpE at hE
  unfold mpR at hR
  clear hC0
  cases ha : mayE (eds L)
  · rw [ha, if_neg (by decide)] at hE hR
    rw [ha] at h1
    subst hE
    replace hR := hide hR
    go_enter Tryz.func34, Tryz.ntmps34
    go_wp2_with (go_at_call 18; (with_reducible refine seq_gw h1.out ?_); intro g)
    go_returns
    exact ⟨_, [], rfl, by rw [hR.out]; rfl, OwnEr.nil _ _, g.grown⟩
  rw [ha, if_pos rfl, grp_eq (mayE_rise ha)] at hE hR
  rw [ha] at h1
  have hvE := hide (mayE_rise ha).1
  have hE0 := hide (And.intro hE hR)
  clear hE hR ha
  have hvR : Hid (∀ r ∈ rowsL (eds L), mayR r = true) := fun r hr => by
    obtain ⟨e, he, rfl⟩ := ((rowsL_ok hvE.out).2 r).1 hr
    exact hvE.out e he
  have hrows := hide (fun w' (hX : Ext w w') => refRows_c L (.slice A L.length cap) w' (hC.out.ext hX) hvE.out (by omega))
  go_enter Tryz.func34, Tryz.ntmps34
  go_wp2_with (first | (go_at_call 18; (with_reducible refine seq_gw h1.out ?_); intro g) | (go_at_call 47; refine (hrows.out _ (g.grown.alloc _)).mono ?_; rintro ee w2 ⟨rv, M, rfl, hM0, hrs0, hMq0, hx20⟩))
  have hXl := hide (g.grown)
  have hXlit := hide (g.grown.alloc (.cells #[] 56))
  have hlit := hide (World.ownsRow_lit (base := g.val.heap.size) (e := 56) (size := 3) g.val #[] 0 (Nat.le_refl _) (by decide) rfl)
  have hM := hide hM0
  have hrs := hide hrs0
  have hMq := hide hMq0
  have hx2 := hide hx20
  have hML : Hid (M.length ≤ 1024) := by
    show _ ≤ _
    have h1 := rowsL_len (eds L) hvE.out
    rw [← hM0] at h1
    simp only [rvs, eds, List.length_map] at h1
    omega
  obtain ⟨RA, rcap, e9, -, -, -⟩ := rs_form (Sl.own (S := []) hrs0 (by simp))
  subst e9
  have hEd : Hid (∀ k acc, Evs ngOp (eds L) k acc → M.length ≤ k → (4096 < acc.length → E = 7 ∧ R = []) ∧ (¬ 4096 < acc.length → E = 0 ∧ R = acc)) := fun k acc h hk => by
    rw [hE0.out.1, hE0.out.2]
    exact h.done (by rw [← hM.out]; simpa [rvs] using hk)
  have hEb : Hid (∀ k acc r, Evs ngOp (eds L) k acc → (rowsL (eds L))[k]? = some r → (ngOp (jmps (eds L) r)).1 ≠ 0 → E = (ngOp (jmps (eds L) r)).1 ∧ R = []) := fun k acc r h hr h0 => by
    rw [hE0.out.1, hE0.out.2]
    exact h.bad hr h0
  clear hM0 hrs0 hMq0 hx20
  go_loopg [8, 10] M.length (fun gh vv i wq => ∃ (k : Nat) (Y : List Ve), i = .int .i64 k ∧ k + gh = M.length ∧ OwnEr wq w.heap.size vv Y ∧ Y.length ≤ k * 1024 ∧ Hid (Evs ngOp (eds L) k (eds Y)) ∧ Hid (Apt wq (ob vv) (.slice A L.length cap) (.slice RA M.length rcap) L M) ∧ Ext w wq)
  case atStart => exact ⟨0, [], rfl, by omega, ⟨own_base (own_ext hlit.out hx2.out) hXl.out.size, by simp⟩, Nat.le_refl _, Evs.zero _ _, by
    show Apt _ _ _ _ _ _
    exact Apt.start (hC.out.ext hXl.out) (Nat.le_refl _) (by simp) (((Ext.refl _).alloc _).trans hx2.out) hrs.out hMq.out, hXlit.out.trans hx2.out⟩
  case round =>
    obtain ⟨k, Y, rfl, hk, ho, hYk, hev, hap, hX⟩ := hrel
    obtain ⟨wq, hwq⟩ : ∃ wq, wq = wr := ⟨_, rfl⟩
    subst hwq
    have hzX := hX.size
    have hML2 := hML.out
    clear hlit hx2 hXlit hXl hrs hMq
    by_cases hlt : k < M.length
    · obtain ⟨⟨pv, pr⟩, hp⟩ : ∃ p, M[k]? = some p := ⟨_, List.getElem?_eq_getElem hlt⟩
      have hpr : (rowsL (eds L))[k]? = some pr := by rw [← hM.out]; simp [rvs, hp]
      obtain ⟨A9, c9, e9, -, -, hrt⟩ := rs_form hap.out.2.1
      cases e9
      obtain ⟨b', o', rfl, -, hb', d0⟩ := hrt k _ hp
      have hpw := hide (hap.out.2.2 _ (List.mem_of_getElem? hp))
      simp only at d0 hpw
      have hp8 : pr.length ≤ 8 := mayR_len (hvR.out _ (List.mem_of_getElem? hpr))
      have hj := hide (refJumps_c L pr (.slice A L.length cap) pv _ (hap.out.1.less (by simp)) (Sl.less hpw.out (by simp)) (by omega))
      have hjl : (jmps (eds L) pr).length ≤ 1024 := Nat.le_trans (jmps_le _ _) (by simp only [eds, List.length_map]; omega)
      have hopl := ngOp_len (jmps (eds L) pr)
      have hbadE := hide (hEb.out k (eds Y) pr hev.out hpr)
      have hevn : Hid ((ngOp (jmps (eds L) pr)).1 = 0 → Evs ngOp (eds L) (k + 1) (eds Y ++ (ngOp (jmps (eds L) pr)).2.map fun j => (pr, j))) := fun h => hev.out.next hpr h
      obtain ⟨J, hJ⟩ : ∃ J, J = jmps (eds L) pr := ⟨_, rfl⟩
      rw [← hJ] at hj hjl hopl hbadE hevn
      have hop := hide (fun x w' hf => refNeg_c J x w' hf)
      simp only [ngOp] at hopl hbadE hevn
      obtain ⟨XA, xcap, rfl⟩ := rw_val hpw.out
      obtain ⟨C, ccap, rfl⟩ := own_form ho.1
      have hK := hide (ob_ge ho.1)
      replace ho := hide ho
      replace hev := hide hev
      haveI : In b' _ := ⟨hb'⟩
      clear hrt hp hpr hJ
      by_cases he : ngE J = 0
      · rw [he] at hop
        replace hevn := hide (hevn.out he)
        replace he := hide he
        go_wp2_with (first
          | (go_at_call 25; refine hj.out.mono ?_; rintro ee w3 ⟨v3, rfl, ho3, hx3⟩; have hf3 := hide (Sl.own (S := []) ho3 (by simp)); obtain ⟨C3, c3, q3⟩ := own_form ho3; subst q3; have k3 := cell_later hx3 d0; have hb3 : b' < w3.heap.size := block_lt_of_cell k3)
          | (go_at_call 70; refine (hop.out _ _ hf3.out).mono ?_; rintro ee w4 ⟨v4, rfl, ho4, hx34⟩; have hx4 := hx3.trans hx34; replace hx34 := hx3.size; obtain ⟨C4, c4, q4⟩ := own_form ho4; subst q4; have k4 := cell_later hx4 d0; have hb4 : b' < w4.heap.size := block_lt_of_cell k4)
          | (go_at_call 27; refine (refPutG_c (ob (.slice C Y.length ccap)) w.heap.size Y pr (ngR J) _ _ _ w4 (ho.out.ext hx4) (Nat.le_trans hzX hx4.size) (fun q hq => by simp [ob, hq]) (Sl.ext hpw.out hx4) (by omega) (Sl.own ho4 (fun q hq => by have := (hK.out q hq).2; have := hx34; omega)) (by omega)).mono ?_; rintro ee w5 ⟨v5, N, rfl, hN, ho5, hF5, hb5⟩))
        go_roundg (M.length - (k + 1))
        case measure => omega
        case rel => exact ⟨k + 1, Y ++ N, by go_num, by omega, ho5, by
          have : N.length = (ngR J).length := by have := congrArg List.length hN; simpa [eds] using this
          rw [List.length_append]; omega, by show Evs _ _ _ _; rw [eds_app, hN]; exact hevn.out, (hap.out.ext hx4).put hF5 hb5, ext_fr (hX.trans hx4) hF5 (fun b hb => (hK.out b hb).1)⟩
      · replace hbadE := hide (hbadE.out he)
        have bne : (ngE J != 0) = true := by rw [bne_iff_ne]; exact he
        clear hevn
        go_wp2_with (first
          | (go_at_call 25; refine hj.out.mono ?_; rintro ee w3 ⟨v3, rfl, ho3, hx3⟩; have hf3 := hide (Sl.own (S := []) ho3 (by simp)); obtain ⟨C3, c3, q3⟩ := own_form ho3; subst q3; have k3 := cell_later hx3 d0; have hb3 : b' < w3.heap.size := block_lt_of_cell k3)
          | (go_at_call 70; refine (hop.out _ _ hf3.out).mono ?_; rintro ee w4 ⟨v4, rfl, ho4, hx34⟩; have hx4 := hx3.trans hx34; replace hx34 := hx3.size; obtain ⟨C4, c4, q4⟩ := own_form ho4; subst q4; have k4 := cell_later hx4 d0; have hb4 : b' < w4.heap.size := block_lt_of_cell k4))
        go_returns
        first | exact ⟨_, [], by rw [hbadE.out.1]; rfl, by rw [hbadE.out.2]; rfl, OwnEr.nil _ _, hX.trans hx4⟩ | exact ⟨_, by rw [hbadE.out.1]; rfl, [], by rw [hbadE.out.2]; rfl, OwnEr.nil _ _, hX.trans hx4⟩
    · have hge : (M.length : Int) ≤ k := by omega
      have hd := hEd.out k (eds Y) hev.out (by omega)
      rw [show (eds Y).length = Y.length by simp [eds]] at hd
      have hdh := hide hd
      clear hd
      obtain ⟨C, ccap, rfl⟩ := own_form ho.1
      by_cases hbig : 4096 < Y.length
      · have hf := hide (hdh.out.1 hbig)
        have hbI : (4096 : Int) < Y.length := by omega
        go_wp2_with fail
        go_returns
        first | exact ⟨_, [], by rw [hf.out.1]; rfl, by rw [hf.out.2]; rfl, OwnEr.nil _ _, hX⟩ | exact ⟨_, by rw [hf.out.1]; rfl, [], by rw [hf.out.2]; rfl, OwnEr.nil _ _, hX⟩
      · have hf := hide (hdh.out.2 hbig)
        have hbI : ¬ (4096 : Int) < Y.length := by omega
        replace ho := hide ho
        go_wp2_with fail
        go_returns
        first | exact ⟨_, Y, by rw [hf.out.1]; rfl, by rw [hf.out.2], ho.out, hX⟩ | exact ⟨_, by rw [hf.out.1]; rfl, Y, by rw [hf.out.2], ho.out, hX⟩
set_option maxHeartbeats 8000000 in
set_option maxRecDepth 100000 in
theorem refMapAhead_c (L : List Ve) (t : Int) (hL : L.length ≤ 1024) (v : Value) (w : World) (hC0 : Ew w [] v L) : Calls Tryz.prog 34 #[v, .int .i64 1, .int .i64 t] w fun e w' => ∃ v' M, e = .returned (.tuple #[v', .int .i64 (mpE (ahOp t) (eds L))]) ∧ eds M = mpR (ahOp t) (eds L) ∧ OwnEr w' w.heap.size v' M ∧ Ext w w' := by
  have h1 := hide (refEdgeMay_c L v w hC0)
  obtain ⟨A, cap, rfl, hlc, hlm, -⟩ := ew_form hC0
  unfold maxLen at hlm
  have hC := hide hC0
  obtain ⟨E, hE⟩ : ∃ E, E = mpE (ahOp t) (eds L) := ⟨_, rfl⟩
  obtain ⟨R, hR⟩ : ∃ R, R = mpR (ahOp t) (eds L) := ⟨_, rfl⟩
  rw [← hE, ← hR]
  unfold mpE at hE
  unfold mpR at hR
  clear hC0
  cases ha : mayE (eds L)
  · rw [ha, if_neg (by decide)] at hE hR
    rw [ha] at h1
    subst hE
    replace hR := hide hR
    go_enter Tryz.func34, Tryz.ntmps34
    go_wp2_with (go_at_call 18; (with_reducible refine seq_gw h1.out ?_); intro g)
    go_returns
    exact ⟨_, [], rfl, by rw [hR.out]; rfl, OwnEr.nil _ _, g.grown⟩
  rw [ha, if_pos rfl, grp_eq (mayE_rise ha)] at hE hR
  rw [ha] at h1
  have hvE := hide (mayE_rise ha).1
  have hE0 := hide (And.intro hE hR)
  clear hE hR ha
  have hvR : Hid (∀ r ∈ rowsL (eds L), mayR r = true) := fun r hr => by
    obtain ⟨e, he, rfl⟩ := ((rowsL_ok hvE.out).2 r).1 hr
    exact hvE.out e he
  have hrows := hide (fun w' (hX : Ext w w') => refRows_c L (.slice A L.length cap) w' (hC.out.ext hX) hvE.out (by omega))
  go_enter Tryz.func34, Tryz.ntmps34
  go_wp2_with (first | (go_at_call 18; (with_reducible refine seq_gw h1.out ?_); intro g) | (go_at_call 47; refine (hrows.out _ (g.grown.alloc _)).mono ?_; rintro ee w2 ⟨rv, M, rfl, hM0, hrs0, hMq0, hx20⟩))
  have hXl := hide (g.grown)
  have hXlit := hide (g.grown.alloc (.cells #[] 56))
  have hlit := hide (World.ownsRow_lit (base := g.val.heap.size) (e := 56) (size := 3) g.val #[] 0 (Nat.le_refl _) (by decide) rfl)
  have hM := hide hM0
  have hrs := hide hrs0
  have hMq := hide hMq0
  have hx2 := hide hx20
  have hML : Hid (M.length ≤ 1024) := by
    show _ ≤ _
    have h1 := rowsL_len (eds L) hvE.out
    rw [← hM0] at h1
    simp only [rvs, eds, List.length_map] at h1
    omega
  obtain ⟨RA, rcap, e9, -, -, -⟩ := rs_form (Sl.own (S := []) hrs0 (by simp))
  subst e9
  have hEd : Hid (∀ k acc, Evs (ahOp t) (eds L) k acc → M.length ≤ k → (4096 < acc.length → E = 7 ∧ R = []) ∧ (¬ 4096 < acc.length → E = 0 ∧ R = acc)) := fun k acc h hk => by
    rw [hE0.out.1, hE0.out.2]
    exact h.done (by rw [← hM.out]; simpa [rvs] using hk)
  have hEb : Hid (∀ k acc r, Evs (ahOp t) (eds L) k acc → (rowsL (eds L))[k]? = some r → ((ahOp t) (jmps (eds L) r)).1 ≠ 0 → E = ((ahOp t) (jmps (eds L) r)).1 ∧ R = []) := fun k acc r h hr h0 => by
    rw [hE0.out.1, hE0.out.2]
    exact h.bad hr h0
  clear hM0 hrs0 hMq0 hx20
  go_loopg [8, 10] M.length (fun gh vv i wq => ∃ (k : Nat) (Y : List Ve), i = .int .i64 k ∧ k + gh = M.length ∧ OwnEr wq w.heap.size vv Y ∧ Y.length ≤ k * 1024 ∧ Hid (Evs (ahOp t) (eds L) k (eds Y)) ∧ Hid (Apt wq (ob vv) (.slice A L.length cap) (.slice RA M.length rcap) L M) ∧ Ext w wq)
  case atStart => exact ⟨0, [], rfl, by omega, ⟨own_base (own_ext hlit.out hx2.out) hXl.out.size, by simp⟩, Nat.le_refl _, Evs.zero _ _, by
    show Apt _ _ _ _ _ _
    exact Apt.start (hC.out.ext hXl.out) (Nat.le_refl _) (by simp) (((Ext.refl _).alloc _).trans hx2.out) hrs.out hMq.out, hXlit.out.trans hx2.out⟩
  case round =>
    obtain ⟨k, Y, rfl, hk, ho, hYk, hev, hap, hX⟩ := hrel
    obtain ⟨wq, hwq⟩ : ∃ wq, wq = wr := ⟨_, rfl⟩
    subst hwq
    have hzX := hX.size
    have hML2 := hML.out
    clear hlit hx2 hXlit hXl hrs hMq
    by_cases hlt : k < M.length
    · obtain ⟨⟨pv, pr⟩, hp⟩ : ∃ p, M[k]? = some p := ⟨_, List.getElem?_eq_getElem hlt⟩
      have hpr : (rowsL (eds L))[k]? = some pr := by rw [← hM.out]; simp [rvs, hp]
      obtain ⟨A9, c9, e9, -, -, hrt⟩ := rs_form hap.out.2.1
      cases e9
      obtain ⟨b', o', rfl, -, hb', d0⟩ := hrt k _ hp
      have hpw := hide (hap.out.2.2 _ (List.mem_of_getElem? hp))
      simp only at d0 hpw
      have hp8 : pr.length ≤ 8 := mayR_len (hvR.out _ (List.mem_of_getElem? hpr))
      have hj := hide (refJumps_c L pr (.slice A L.length cap) pv _ (hap.out.1.less (by simp)) (Sl.less hpw.out (by simp)) (by omega))
      have hjl : (jmps (eds L) pr).length ≤ 1024 := Nat.le_trans (jmps_le _ _) (by simp only [eds, List.length_map]; omega)
      have hopl := ahOp_len t (jmps (eds L) pr)
      have hbadE := hide (hEb.out k (eds Y) pr hev.out hpr)
      have hevn : Hid (((ahOp t) (jmps (eds L) pr)).1 = 0 → Evs (ahOp t) (eds L) (k + 1) (eds Y ++ ((ahOp t) (jmps (eds L) pr)).2.map fun j => (pr, j))) := fun h => hev.out.next hpr h
      obtain ⟨J, hJ⟩ : ∃ J, J = jmps (eds L) pr := ⟨_, rfl⟩
      rw [← hJ] at hj hjl hopl hbadE hevn
      have hop := hide (fun x w' hf => jrefAhead_c J t x w' hf)
      simp only [ahOp] at hopl hbadE hevn
      obtain ⟨XA, xcap, rfl⟩ := rw_val hpw.out
      obtain ⟨C, ccap, rfl⟩ := own_form ho.1
      have hK := hide (ob_ge ho.1)
      replace ho := hide ho
      replace hev := hide hev
      haveI : In b' _ := ⟨hb'⟩
      clear hrt hp hpr hJ
      by_cases he : ahE J t = 0
      · rw [he] at hop
        replace hevn := hide (hevn.out he)
        replace he := hide he
        go_wp2_with (first
          | (go_at_call 25; refine hj.out.mono ?_; rintro ee w3 ⟨v3, rfl, ho3, hx3⟩; have hf3 := hide (Sl.own (S := []) ho3 (by simp)); obtain ⟨C3, c3, q3⟩ := own_form ho3; subst q3; have k3 := cell_later hx3 d0; have hb3 : b' < w3.heap.size := block_lt_of_cell k3)
          | (go_at_call 70; refine (refNeg_c J _ _ hf3.out).mono ?_; rintro ee w6 ⟨v6, rfl, ho6, hx36⟩; have hx6 := hx3.trans hx36; have hf6 := hide (Sl.ext hf3.out hx36); obtain ⟨C6, c6, q6⟩ := own_form ho6; subst q6)
          | (go_at_call 71; refine (hop.out _ _ hf6.out).mono ?_; rintro ee w4 ⟨v4, rfl, ho4, hx34⟩; have hx4 := hx6.trans hx34; replace hx34 := hx6.size; obtain ⟨C4, c4, q4⟩ := own_form ho4; subst q4; have k4 := cell_later hx4 d0; have hb4 : b' < w4.heap.size := block_lt_of_cell k4)
          | (go_at_call 27; refine (refPutG_c (ob (.slice C Y.length ccap)) w.heap.size Y pr (ahR J t) _ _ _ w4 (ho.out.ext hx4) (Nat.le_trans hzX hx4.size) (fun q hq => by simp [ob, hq]) (Sl.ext hpw.out hx4) (by omega) (Sl.own ho4 (fun q hq => by have := (hK.out q hq).2; have := hx34; omega)) (by omega)).mono ?_; rintro ee w5 ⟨v5, N, rfl, hN, ho5, hF5, hb5⟩))
        go_roundg (M.length - (k + 1))
        case measure => omega
        case rel => exact ⟨k + 1, Y ++ N, by go_num, by omega, ho5, by
          have : N.length = (ahR J t).length := by have := congrArg List.length hN; simpa [eds] using this
          rw [List.length_append]; omega, by show Evs _ _ _ _; rw [eds_app, hN]; exact hevn.out, (hap.out.ext hx4).put hF5 hb5, ext_fr (hX.trans hx4) hF5 (fun b hb => (hK.out b hb).1)⟩
      · replace hbadE := hide (hbadE.out he)
        have bne : (ahE J t != 0) = true := by rw [bne_iff_ne]; exact he
        clear hevn
        go_wp2_with (first
          | (go_at_call 25; refine hj.out.mono ?_; rintro ee w3 ⟨v3, rfl, ho3, hx3⟩; have hf3 := hide (Sl.own (S := []) ho3 (by simp)); obtain ⟨C3, c3, q3⟩ := own_form ho3; subst q3; have k3 := cell_later hx3 d0; have hb3 : b' < w3.heap.size := block_lt_of_cell k3)
          | (go_at_call 70; refine (refNeg_c J _ _ hf3.out).mono ?_; rintro ee w6 ⟨v6, rfl, ho6, hx36⟩; have hx6 := hx3.trans hx36; have hf6 := hide (Sl.ext hf3.out hx36); obtain ⟨C6, c6, q6⟩ := own_form ho6; subst q6)
          | (go_at_call 71; refine (hop.out _ _ hf6.out).mono ?_; rintro ee w4 ⟨v4, rfl, ho4, hx34⟩; have hx4 := hx6.trans hx34; replace hx34 := hx6.size; obtain ⟨C4, c4, q4⟩ := own_form ho4; subst q4; have k4 := cell_later hx4 d0; have hb4 : b' < w4.heap.size := block_lt_of_cell k4))
        go_returns
        first | exact ⟨_, [], by rw [hbadE.out.1]; rfl, by rw [hbadE.out.2]; rfl, OwnEr.nil _ _, hX.trans hx4⟩ | exact ⟨_, by rw [hbadE.out.1]; rfl, [], by rw [hbadE.out.2]; rfl, OwnEr.nil _ _, hX.trans hx4⟩
    · have hge : (M.length : Int) ≤ k := by omega
      have hd := hEd.out k (eds Y) hev.out (by omega)
      rw [show (eds Y).length = Y.length by simp [eds]] at hd
      have hdh := hide hd
      clear hd
      obtain ⟨C, ccap, rfl⟩ := own_form ho.1
      by_cases hbig : 4096 < Y.length
      · have hf := hide (hdh.out.1 hbig)
        have hbI : (4096 : Int) < Y.length := by omega
        go_wp2_with fail
        go_returns
        first | exact ⟨_, [], by rw [hf.out.1]; rfl, by rw [hf.out.2]; rfl, OwnEr.nil _ _, hX⟩ | exact ⟨_, by rw [hf.out.1]; rfl, [], by rw [hf.out.2]; rfl, OwnEr.nil _ _, hX⟩
      · have hf := hide (hdh.out.2 hbig)
        have hbI : ¬ (4096 : Int) < Y.length := by omega
        replace ho := hide ho
        go_wp2_with fail
        go_returns
        first | exact ⟨_, Y, by rw [hf.out.1]; rfl, by rw [hf.out.2], ho.out, hX⟩ | exact ⟨_, by rw [hf.out.1]; rfl, Y, by rw [hf.out.2], ho.out, hX⟩
set_option maxHeartbeats 8000000 in
set_option maxRecDepth 100000 in
theorem refMapRest_c (L : List Ve) (t : Int) (hL : L.length ≤ 1024) (v : Value) (w : World) (hC0 : Ew w [] v L) : Calls Tryz.prog 34 #[v, .int .i64 2, .int .i64 t] w fun e w' => ∃ v' M, e = .returned (.tuple #[v', .int .i64 (mpE (reOp t) (eds L))]) ∧ eds M = mpR (reOp t) (eds L) ∧ OwnEr w' w.heap.size v' M ∧ Ext w w' := by
  have h1 := hide (refEdgeMay_c L v w hC0)
  obtain ⟨A, cap, rfl, hlc, hlm, -⟩ := ew_form hC0
  unfold maxLen at hlm
  have hC := hide hC0
  obtain ⟨E, hE⟩ : ∃ E, E = mpE (reOp t) (eds L) := ⟨_, rfl⟩
  obtain ⟨R, hR⟩ : ∃ R, R = mpR (reOp t) (eds L) := ⟨_, rfl⟩
  rw [← hE, ← hR]
  unfold mpE at hE
  unfold mpR at hR
  clear hC0
  cases ha : mayE (eds L)
  · rw [ha, if_neg (by decide)] at hE hR
    rw [ha] at h1
    subst hE
    replace hR := hide hR
    go_enter Tryz.func34, Tryz.ntmps34
    go_wp2_with (go_at_call 18; (with_reducible refine seq_gw h1.out ?_); intro g)
    go_returns
    exact ⟨_, [], rfl, by rw [hR.out]; rfl, OwnEr.nil _ _, g.grown⟩
  rw [ha, if_pos rfl, grp_eq (mayE_rise ha)] at hE hR
  rw [ha] at h1
  have hvE := hide (mayE_rise ha).1
  have hE0 := hide (And.intro hE hR)
  clear hE hR ha
  have hvR : Hid (∀ r ∈ rowsL (eds L), mayR r = true) := fun r hr => by
    obtain ⟨e, he, rfl⟩ := ((rowsL_ok hvE.out).2 r).1 hr
    exact hvE.out e he
  have hrows := hide (fun w' (hX : Ext w w') => refRows_c L (.slice A L.length cap) w' (hC.out.ext hX) hvE.out (by omega))
  go_enter Tryz.func34, Tryz.ntmps34
  go_wp2_with (first | (go_at_call 18; (with_reducible refine seq_gw h1.out ?_); intro g) | (go_at_call 47; refine (hrows.out _ (g.grown.alloc _)).mono ?_; rintro ee w2 ⟨rv, M, rfl, hM0, hrs0, hMq0, hx20⟩))
  have hXl := hide (g.grown)
  have hXlit := hide (g.grown.alloc (.cells #[] 56))
  have hlit := hide (World.ownsRow_lit (base := g.val.heap.size) (e := 56) (size := 3) g.val #[] 0 (Nat.le_refl _) (by decide) rfl)
  have hM := hide hM0
  have hrs := hide hrs0
  have hMq := hide hMq0
  have hx2 := hide hx20
  have hML : Hid (M.length ≤ 1024) := by
    show _ ≤ _
    have h1 := rowsL_len (eds L) hvE.out
    rw [← hM0] at h1
    simp only [rvs, eds, List.length_map] at h1
    omega
  obtain ⟨RA, rcap, e9, -, -, -⟩ := rs_form (Sl.own (S := []) hrs0 (by simp))
  subst e9
  have hEd : Hid (∀ k acc, Evs (reOp t) (eds L) k acc → M.length ≤ k → (4096 < acc.length → E = 7 ∧ R = []) ∧ (¬ 4096 < acc.length → E = 0 ∧ R = acc)) := fun k acc h hk => by
    rw [hE0.out.1, hE0.out.2]
    exact h.done (by rw [← hM.out]; simpa [rvs] using hk)
  have hEb : Hid (∀ k acc r, Evs (reOp t) (eds L) k acc → (rowsL (eds L))[k]? = some r → ((reOp t) (jmps (eds L) r)).1 ≠ 0 → E = ((reOp t) (jmps (eds L) r)).1 ∧ R = []) := fun k acc r h hr h0 => by
    rw [hE0.out.1, hE0.out.2]
    exact h.bad hr h0
  clear hM0 hrs0 hMq0 hx20
  go_loopg [8, 10] M.length (fun gh vv i wq => ∃ (k : Nat) (Y : List Ve), i = .int .i64 k ∧ k + gh = M.length ∧ OwnEr wq w.heap.size vv Y ∧ Y.length ≤ k * 1024 ∧ Hid (Evs (reOp t) (eds L) k (eds Y)) ∧ Hid (Apt wq (ob vv) (.slice A L.length cap) (.slice RA M.length rcap) L M) ∧ Ext w wq)
  case atStart => exact ⟨0, [], rfl, by omega, ⟨own_base (own_ext hlit.out hx2.out) hXl.out.size, by simp⟩, Nat.le_refl _, Evs.zero _ _, by
    show Apt _ _ _ _ _ _
    exact Apt.start (hC.out.ext hXl.out) (Nat.le_refl _) (by simp) (((Ext.refl _).alloc _).trans hx2.out) hrs.out hMq.out, hXlit.out.trans hx2.out⟩
  case round =>
    obtain ⟨k, Y, rfl, hk, ho, hYk, hev, hap, hX⟩ := hrel
    obtain ⟨wq, hwq⟩ : ∃ wq, wq = wr := ⟨_, rfl⟩
    subst hwq
    have hzX := hX.size
    have hML2 := hML.out
    clear hlit hx2 hXlit hXl hrs hMq
    by_cases hlt : k < M.length
    · obtain ⟨⟨pv, pr⟩, hp⟩ : ∃ p, M[k]? = some p := ⟨_, List.getElem?_eq_getElem hlt⟩
      have hpr : (rowsL (eds L))[k]? = some pr := by rw [← hM.out]; simp [rvs, hp]
      obtain ⟨A9, c9, e9, -, -, hrt⟩ := rs_form hap.out.2.1
      cases e9
      obtain ⟨b', o', rfl, -, hb', d0⟩ := hrt k _ hp
      have hpw := hide (hap.out.2.2 _ (List.mem_of_getElem? hp))
      simp only at d0 hpw
      have hp8 : pr.length ≤ 8 := mayR_len (hvR.out _ (List.mem_of_getElem? hpr))
      have hj := hide (refJumps_c L pr (.slice A L.length cap) pv _ (hap.out.1.less (by simp)) (Sl.less hpw.out (by simp)) (by omega))
      have hjl : (jmps (eds L) pr).length ≤ 1024 := Nat.le_trans (jmps_le _ _) (by simp only [eds, List.length_map]; omega)
      have hopl := reOp_len t (jmps (eds L) pr)
      have hbadE := hide (hEb.out k (eds Y) pr hev.out hpr)
      have hevn : Hid (((reOp t) (jmps (eds L) pr)).1 = 0 → Evs (reOp t) (eds L) (k + 1) (eds Y ++ ((reOp t) (jmps (eds L) pr)).2.map fun j => (pr, j))) := fun h => hev.out.next hpr h
      obtain ⟨J, hJ⟩ : ∃ J, J = jmps (eds L) pr := ⟨_, rfl⟩
      rw [← hJ] at hj hjl hopl hbadE hevn
      have hop := hide (fun x w' hf => jrefRest_c J t x w' hf)
      simp only [reOp] at hopl hbadE hevn
      obtain ⟨XA, xcap, rfl⟩ := rw_val hpw.out
      obtain ⟨C, ccap, rfl⟩ := own_form ho.1
      have hK := hide (ob_ge ho.1)
      replace ho := hide ho
      replace hev := hide hev
      haveI : In b' _ := ⟨hb'⟩
      clear hrt hp hpr hJ
      by_cases he : reE J t = 0
      · rw [he] at hop
        replace hevn := hide (hevn.out he)
        replace he := hide he
        go_wp2_with (first
          | (go_at_call 25; refine hj.out.mono ?_; rintro ee w3 ⟨v3, rfl, ho3, hx3⟩; have hf3 := hide (Sl.own (S := []) ho3 (by simp)); obtain ⟨C3, c3, q3⟩ := own_form ho3; subst q3; have k3 := cell_later hx3 d0; have hb3 : b' < w3.heap.size := block_lt_of_cell k3)
          | (go_at_call 70; refine (refNeg_c J _ _ hf3.out).mono ?_; rintro ee w6 ⟨v6, rfl, ho6, hx36⟩; have hx6 := hx3.trans hx36; have hf6 := hide (Sl.ext hf3.out hx36); obtain ⟨C6, c6, q6⟩ := own_form ho6; subst q6)
          | (go_at_call 72; refine (hop.out _ _ hf6.out).mono ?_; rintro ee w4 ⟨v4, rfl, ho4, hx34⟩; have hx4 := hx6.trans hx34; replace hx34 := hx6.size; obtain ⟨C4, c4, q4⟩ := own_form ho4; subst q4; have k4 := cell_later hx4 d0; have hb4 : b' < w4.heap.size := block_lt_of_cell k4)
          | (go_at_call 27; refine (refPutG_c (ob (.slice C Y.length ccap)) w.heap.size Y pr (reR J t) _ _ _ w4 (ho.out.ext hx4) (Nat.le_trans hzX hx4.size) (fun q hq => by simp [ob, hq]) (Sl.ext hpw.out hx4) (by omega) (Sl.own ho4 (fun q hq => by have := (hK.out q hq).2; have := hx34; omega)) (by omega)).mono ?_; rintro ee w5 ⟨v5, N, rfl, hN, ho5, hF5, hb5⟩))
        go_roundg (M.length - (k + 1))
        case measure => omega
        case rel => exact ⟨k + 1, Y ++ N, by go_num, by omega, ho5, by
          have : N.length = (reR J t).length := by have := congrArg List.length hN; simpa [eds] using this
          rw [List.length_append]; omega, by show Evs _ _ _ _; rw [eds_app, hN]; exact hevn.out, (hap.out.ext hx4).put hF5 hb5, ext_fr (hX.trans hx4) hF5 (fun b hb => (hK.out b hb).1)⟩
      · replace hbadE := hide (hbadE.out he)
        have bne : (reE J t != 0) = true := by rw [bne_iff_ne]; exact he
        clear hevn
        go_wp2_with (first
          | (go_at_call 25; refine hj.out.mono ?_; rintro ee w3 ⟨v3, rfl, ho3, hx3⟩; have hf3 := hide (Sl.own (S := []) ho3 (by simp)); obtain ⟨C3, c3, q3⟩ := own_form ho3; subst q3; have k3 := cell_later hx3 d0; have hb3 : b' < w3.heap.size := block_lt_of_cell k3)
          | (go_at_call 70; refine (refNeg_c J _ _ hf3.out).mono ?_; rintro ee w6 ⟨v6, rfl, ho6, hx36⟩; have hx6 := hx3.trans hx36; have hf6 := hide (Sl.ext hf3.out hx36); obtain ⟨C6, c6, q6⟩ := own_form ho6; subst q6)
          | (go_at_call 72; refine (hop.out _ _ hf6.out).mono ?_; rintro ee w4 ⟨v4, rfl, ho4, hx34⟩; have hx4 := hx6.trans hx34; replace hx34 := hx6.size; obtain ⟨C4, c4, q4⟩ := own_form ho4; subst q4; have k4 := cell_later hx4 d0; have hb4 : b' < w4.heap.size := block_lt_of_cell k4))
        go_returns
        first | exact ⟨_, [], by rw [hbadE.out.1]; rfl, by rw [hbadE.out.2]; rfl, OwnEr.nil _ _, hX.trans hx4⟩ | exact ⟨_, by rw [hbadE.out.1]; rfl, [], by rw [hbadE.out.2]; rfl, OwnEr.nil _ _, hX.trans hx4⟩
    · have hge : (M.length : Int) ≤ k := by omega
      have hd := hEd.out k (eds Y) hev.out (by omega)
      rw [show (eds Y).length = Y.length by simp [eds]] at hd
      have hdh := hide hd
      clear hd
      obtain ⟨C, ccap, rfl⟩ := own_form ho.1
      by_cases hbig : 4096 < Y.length
      · have hf := hide (hdh.out.1 hbig)
        have hbI : (4096 : Int) < Y.length := by omega
        go_wp2_with fail
        go_returns
        first | exact ⟨_, [], by rw [hf.out.1]; rfl, by rw [hf.out.2]; rfl, OwnEr.nil _ _, hX⟩ | exact ⟨_, by rw [hf.out.1]; rfl, [], by rw [hf.out.2]; rfl, OwnEr.nil _ _, hX⟩
      · have hf := hide (hdh.out.2 hbig)
        have hbI : ¬ (4096 : Int) < Y.length := by omega
        replace ho := hide ho
        go_wp2_with fail
        go_returns
        first | exact ⟨_, Y, by rw [hf.out.1]; rfl, by rw [hf.out.2], ho.out, hX⟩ | exact ⟨_, by rw [hf.out.1]; rfl, Y, by rw [hf.out.2], ho.out, hX⟩
end Go.Proofs.YtpiehlfpkfbckaaGreat
