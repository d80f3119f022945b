/-
  A helper of ours: no claim of its own. Layer 10 (edge): a row once, and sums, by the document; what is put together is in form; what a row once amounts to.
-/
import Derived.Test.YtjmoifbajjemmaaGreatEdgNd
import Derived.Test.YtjmoifbajjemmaaGreatEdgH
import Derived.Test.YtjmoifbajjemmaaGreatEdgK
set_option linter.unusedVariables false
set_option linter.unusedSimpArgs false
namespace Go.Proofs.YtjmoifbajjemmaaGreat
open Go.RowKit
attribute [local go_sem] GW.cell GW.frozen In.eq_true In.le_true In.ne In.ne' In.ne_add In.ne_add' In.lt_add Upto.le_true Upto.le_add Upto.lt_add
theorem own_two {w w2 : World} {base : Nat} {L M : List Ve} {v u x : Value} (hl : Ew w [] v L) (hm : Ew w [] u M) (hX : Ext w w2) (h : w2.ownsRow base 44 3 x (0 + L.length + M.length) (([] ++ ec L) ++ ec M)) : Ew w2 [] x (L ++ M) := by
  rw [Nat.zero_add, List.nil_append] at h
  refine ⟨Sl.own (own_appE h) (by simp), fun p hp => ?_⟩
  rcases List.mem_append.1 hp with hp | hp
  · exact Sl.ext (hl.2 p hp) hX
  · exact Sl.ext (hm.2 p hp) hX
theorem ne_may {l : List Ed} (h : neE l = 0) : mayE (neR l) = true := by
  obtain ⟨h1, h2, h3⟩ := ne_zero h
  obtain ⟨k1, k2, k3⟩ := each_zero h2
  have hv : ∀ e ∈ l, mayR e.1 = true := fun e he => by
    have := (h1 e he).1
    unfold badE at this
    cases hm : mayR e.1
    · rw [hm] at this; simp at this
    · rfl
  rw [h3]
  refine may_each (by rw [nmOp_nil]) hv k2 fun r => ?_
  have h0 := op_rows (op := nmOp) (by rw [nmOp_nil]) hv k1 r
  unfold nmOp at h0 ⊢
  simp only at h0 ⊢
  unfold nmR
  rw [if_pos h0]
  unfold nmE at h0
  split at h0
  · cases h0
  · split at h0
    · cases h0
    · unfold full at h0
      split at h0
      · assumption
      · cases h0
/-- A row once: what its function amounts to. -/
theorem once_jmps (r : List Vl) (f t : Int) : jmps [(r, (f, 1)), (r, (t, -1))] r = [(f, 1), (t, -1)] := by simp [jmps]
theorem once_nm {f t : Int} (h : smayB f t = true) : nmL [(f, 1), (t, -1)] = if t = 1125899906842624 then [(f, 1)] else [(f, 1), (t, -1)] := by
  obtain ⟨h1, h2, h3, h4, h5⟩ := mayB_lt h
  have hf : f ≠ 1125899906842624 := by omega
  have j1 : jv [(f, 1), (t, -1)] f = 1 := by simp only [jv]; rw [if_pos (Int.le_refl _), if_neg (by omega)]; rfl
  have j2 : jv [(f, 1), (t, -1)] t = 0 := by simp only [jv]; rw [if_pos (by omega), if_pos (Int.le_refl _)]; rfl
  unfold nmL inF
  by_cases ht : t = 1125899906842624
  · rw [if_pos ht, List.filter_cons_of_pos (by simpa using hf), List.filter_cons_of_neg (by simpa using ht), List.filter_nil]
    show tell _ [f] 0 = _
    simp only [tell, j1]
    rfl
  · rw [if_neg ht, List.filter_cons_of_pos (by simpa using hf), List.filter_cons_of_pos (by simpa using ht), List.filter_nil]
    have hp : plc [] [((f, 1) : Jp), (t, -1)] = [f, t] := by
      show ins (ins [] f) t = _
      have : ins [] f = [f] := rfl
      rw [this]
      unfold ins
      rw [if_neg (by simp; omega), List.filter_cons_of_pos (by simpa using h1), List.filter_cons_of_neg (by simp; omega)]
      rfl
    rw [hp]
    simp only [tell, j1, j2]
    rfl
theorem once_ok {r : List Vl} {f t : Int} (h : ofE r f t = 0) : mayR r = true ∧ mayE (ofR r f t) = true ∧ tabE (ofR r f t) = true ∧ atV (jmps (ofR r f t) r) f = 1 := by
  have ha : mayR r = true := by
    unfold ofE at h
    cases hh : mayR r
    · rw [hh] at h; simp at h
    · rfl
  have hb : smayB f t = true := by
    unfold ofE at h
    rw [ha] at h
    cases hh : smayB f t
    · rw [hh] at h; simp at h
    · rfl
  have hn : neE [(r, (f, 1)), (r, (t, -1))] = 0 := by unfold ofE at h; rw [ha, hb] at h; simpa using h
  have hR : ofR r f t = neR [(r, (f, 1)), (r, (t, -1))] := by unfold ofR; rw [if_pos h]
  have hm : mayE (ofR r f t) = true := by rw [hR]; exact ne_may hn
  obtain ⟨h1, h2, h3⟩ := ne_zero hn
  have hv : ∀ e ∈ [((r, (f, 1)) : Ed), (r, (t, -1))], mayR e.1 = true := fun e he => by
    simp at he; rcases he with rfl | rfl <;> exact ha
  obtain ⟨k1, k2, k3⟩ := each_zero h2
  have hj : jmps (ofR r f t) r = nmL [(f, 1), (t, -1)] := by
    rw [hR, h3, jmps_each (by rw [nmOp_nil]) hv r, once_jmps]
    have h0 := op_rows (op := nmOp) (by rw [nmOp_nil]) hv k1 r
    rw [once_jmps] at h0
    unfold nmOp at h0 ⊢
    simp only at h0 ⊢
    unfold nmR
    rw [if_pos h0]
  have hmj : mayJ (nmL [(f, 1), (t, -1)]) = true := by rw [← hj]; exact mayJ_rows hm r
  obtain ⟨g1, g2, g3, g4, g5⟩ := mayB_lt hb
  have hnm := once_nm hb
  have hlow : jv (nmL [(f, 1), (t, -1)]) (-1) = 0 := by
    rw [hnm]; split
    · simp only [jv]; rw [if_neg (by omega)]; rfl
    · simp only [jv]; rw [if_neg (by omega), if_neg (by omega)]; rfl
  have hat : jv (nmL [(f, 1), (t, -1)]) f = 1 := by
    rw [hnm]; split
    · simp only [jv]; rw [if_pos (Int.le_refl _)]; rfl
    · simp only [jv]; rw [if_pos (Int.le_refl _), if_neg (by omega)]; rfl
  refine ⟨ha, hm, ?_, by unfold atV; rw [hj, if_pos hmj, hat]⟩
  rw [tabE_rows hm, List.all_eq_true]
  intro q hq
  rw [decide_eq_true_iff]
  have hq2 : q = r := by
    have hne : jmps (ofR r f t) q ≠ [] := (mem_rows (mayE_rise hm).1 q).1 hq
    rw [hR, h3, jmps_each (by rw [nmOp_nil]) hv q] at hne
    by_cases e : q = r
    · exact e
    · exfalso; apply hne
      have : jmps [((r, (f, 1)) : Ed), (r, (t, -1))] q = [] := by simp [jmps, Ne.symm e]
      rw [this, nmOp_nil]
  subst hq2
  unfold leV
  rw [hj, if_pos hmj, hlow]
  unfold leF
  have hb2 : ∀ j ∈ nmL [(f, 1), (t, -1)], 0 ≤ jv (nmL [(f, 1), (t, -1)]) j.1 := by
    intro j hj
    rw [hnm] at hj ⊢
    split at hj
    · rename_i e
      rw [if_pos e]
      simp at hj
      subst hj
      simp [jv]
    · rename_i e
      rw [if_neg e]
      simp at hj
      rcases hj with rfl | rfl
      · simp only [jv]; rw [if_pos (Int.le_refl _), if_neg (by omega)]; decide
      · simp only [jv]; rw [if_pos (by omega), if_pos (Int.le_refl _)]; decide
  have key : ∀ (g : List Jp) (m : Int), 0 ≤ m → (∀ j ∈ g, 0 ≤ jv (nmL [(f, 1), (t, -1)]) j.1) → 0 ≤ g.foldl (fun m j => min m (jv (nmL [(f, 1), (t, -1)]) j.1)) m := by
    intro g
    induction g with
    | nil => intro m h _; exact h
    | cons a g ih =>
      intro m h hg
      refine ih _ ?_ fun j hj => hg j (by simp [hj])
      have := hg a (by simp)
      show (0 : Int) ≤ min m (jv (nmL [(f, 1), (t, -1)]) a.1)
      omega
  exact key _ _ (Int.le_refl _) hb2
set_option maxHeartbeats 4000000 in
set_option maxRecDepth 100000 in
theorem refEdgeAdd_c (L M : List Ve) (hLM : L.length + M.length ≤ 1024) (v u : Value) (w : World) (hl : Ew w [] v L) (hm : Ew w [] u M) : Calls Tryz.prog 29 #[v, u] w fun e w' => ∃ v' N, e = .returned (.tuple #[v', .int .i64 (adE (eds L) (eds M))]) ∧ eds N = adR (eds L) (eds M) ∧ OwnEr w' w.heap.size v' N ∧ Ext w w' := by
  have h1 := hide (fun w' (hX : Ext w w') => refEdgeMay_c L v w' (hl.ext hX))
  have h2 := hide (fun w' (hX : Ext w w') => refEdgeMay_c M u w' (hm.ext hX))
  have hX0 := hide (Ext.refl w)
  have hl' := hide hl
  have hm' := hide hm
  obtain ⟨A, cap, rfl, hlc, hlm, -⟩ := ew_form hl
  obtain ⟨B, cap2, rfl, hmc, hmm, -⟩ := ew_form hm
  obtain ⟨E, hE⟩ : ∃ E, E = adE (eds L) (eds M) := ⟨_, rfl⟩
  obtain ⟨R, hR⟩ : ∃ R, R = adR (eds L) (eds M) := ⟨_, rfl⟩
  rw [← hE, ← hR]
  unfold adR at hR
  rw [← hE] at hR
  unfold adE at hE
  clear hl hm
  cases ha : mayE (eds L)
  · rw [ha, Bool.false_and, if_neg (by decide)] at hE
    rw [ha] at h1
    subst hE
    replace hR : R = [] := by rw [hR, if_neg (by decide)]
    replace hR := hide hR
    go_enter Tryz.func29, Tryz.ntmps29
    go_wp2_with (go_at_call 28; (with_reducible refine seq_gw (h1.out _ hX0.out) ?_); intro g)
    go_returns
    exact ⟨_, [], rfl, by rw [hR.out]; rfl, OwnEr.nil _ _, g.grown⟩
  cases hb : mayE (eds M)
  · rw [ha, hb, Bool.true_and, if_neg (by decide)] at hE
    rw [ha] at h1
    rw [hb] at h2
    subst hE
    replace hR : R = [] := by rw [hR, if_neg (by decide)]
    replace hR := hide hR
    go_enter Tryz.func29, Tryz.ntmps29
    go_wp2_with (first | (go_at_call 28; (with_reducible refine seq_gw (h1.out _ hX0.out) ?_); intro g) | (go_at_call 28; (with_reducible refine seq_gw' (h2.out _ g.grown) ?_); intro g2))
    go_returns
    exact ⟨_, [], rfl, by rw [hR.out]; rfl, OwnEr.nil _ _, g2.grown⟩
  rw [ha, hb, Bool.true_and, if_pos rfl] at hE
  rw [ha] at h1
  rw [hb] at h2
  have hR2 : Hid (R = neR (eds L ++ eds M)) := by
    show R = _
    rw [hR]
    split
    · rfl
    · rename_i h; rw [hE] at h; rw [neR_bad h]
  have hlit := hide (fun (W : World) => World.ownsRow_lit (base := W.heap.size) (e := 44) (size := 3) W #[] 0 (Nat.le_refl _) (by decide) rfl)
  have heq : Hid (eds (L ++ M) = eds L ++ eds M) := by show _ = _; simp [eds]
  replace hE := hide hE
  clear hR ha hb
  go_enter Tryz.func29, Tryz.ntmps29
  go_wp2_with (first | (go_at_call 28; (with_reducible refine seq_gw (h1.out _ hX0.out) ?_); intro g) | (go_at_call 28; (with_reducible refine seq_gw' (h2.out _ g.grown) ?_); intro g2) | (at_builtin; first | (refine wpl_app tEdg rfl (.tmp 14) (.tmp 15) rfl rfl (hlit.out g2.val) rfl (src_sl Tryz.underlying34 (hl'.out.ext (g2.grown.alloc _)).1 (hl'.out.ext (g2.grown.alloc (.cells #[] 44))).one (by omega)) (by unfold maxLen; omega) (by omega) (by simp) ?_; intro v1 w1 ho1 hg1 _; have hX1 := hide (ext_grown ((Ext.refl g2.val).alloc (.cells #[] 44)) hg1 (fun q hq => ((hlit.out g2.val).lt q hq).1))) | (refine wpl_app tEdg rfl (.tmp 16) (.tmp 17) rfl rfl ho1 rfl (src_sl Tryz.underlying34 (hm'.out.ext (g2.grown.trans hX1.out)).1 (hm'.out.ext (g2.grown.trans hX1.out)).one (by omega)) (by unfold maxLen; omega) (by omega) hX1.out.size ?_; intro v2 w2 ho2 hg2 _; have hX2 := hide (ext_grown hX1.out hg2 (fun q hq => (ho1.lt q hq).1)); have hX4 := hide (g2.grown.trans hX2.out))) | (go_at_call 52; refine (refEdgeNorm_c (L ++ M) (by rw [List.length_append]; omega) _ _ (own_two hl'.out hm'.out hX4.out ho2)).mono ?_; rintro ee w5 ⟨v5, N, rfl, hN, ho5, hX5⟩))
  go_returns
  exact ⟨_, N, by rw [hE.out]; rfl, by rw [hN, hR2.out, heq.out], ho5.lower hX4.out.size, hX4.out.trans hX5⟩
end Go.Proofs.YtjmoifbajjemmaaGreat
