/-
  A helper of ours: no claim of its own. Layer 16 (align): a clock raised, and edges put, by the document.
-/
import Derived.Test.YtjmoifbajjemmaaGreatEdgNd
import Derived.Test.YtjmoifbajjemmaaGreatEdgH
import Derived.Test.YtjmoifbajjemmaaGreatEdgK
import Derived.Test.YtjmoifbajjemmaaGreatEdgQ
import Derived.BigQuiet
set_option linter.unusedVariables false
set_option linter.unusedSimpArgs false
namespace Go.Proofs.YtjmoifbajjemmaaGreat
open Go.RowKit
attribute [local go_sem] GW.cell GW.frozen In.eq_true In.le_true In.ne In.ne' In.ne_add In.ne_add' In.lt_add Upto.le_true Upto.le_add Upto.lt_add
theorem own_two {w w2 : World} {base : Nat} {L M : List Ve} {v u x : Value} (hl : Ew w [] v L) (hm : Ew w [] u M) (hX : Ext w w2) (h : w2.ownsRow base 44 3 x (0 + L.length + M.length) (([] ++ ec L) ++ ec M)) : Ew w2 [] x (L ++ M) := by
  rw [Nat.zero_add, List.nil_append] at h
  refine ⟨Sl.own (own_appE h) (by simp), fun p hp => ?_⟩
  rcases List.mem_append.1 hp with hp | hp
  · exact Sl.ext (hl.2 p hp) hX
  · exact Sl.ext (hm.2 p hp) hX
theorem ne_may {l : List Ed} (h : neE l = 0) : mayE (neR l) = true := by
  obtain ⟨h1, h2, h3⟩ := ne_zero h
  obtain ⟨k1, k2, k3⟩ := each_zero h2
  have hv : ∀ e ∈ l, mayR e.1 = true := fun e he => by
    have := (h1 e he).1
    unfold badE at this
    cases hm : mayR e.1
    · rw [hm] at this; simp at this
    · rfl
  rw [h3]
  refine may_each (by rw [nmOp_nil]) hv k2 fun r => ?_
  have h0 := op_rows (op := nmOp) (by rw [nmOp_nil]) hv k1 r
  unfold nmOp at h0 ⊢
  simp only at h0 ⊢
  unfold nmR
  rw [if_pos h0]
  unfold nmE at h0
  split at h0
  · cases h0
  · split at h0
    · cases h0
    · unfold full at h0
      split at h0
      · assumption
      · cases h0
/-- A row once: what its function amounts to. -/
theorem once_jmps (r : List Vl) (f t : Int) : jmps [(r, (f, 1)), (r, (t, -1))] r = [(f, 1), (t, -1)] := by simp [jmps]
theorem once_nm {f t : Int} (h : smayB f t = true) : nmL [(f, 1), (t, -1)] = if t = 1125899906842624 then [(f, 1)] else [(f, 1), (t, -1)] := by
  obtain ⟨h1, h2, h3, h4, h5⟩ := mayB_lt h
  have hf : f ≠ 1125899906842624 := by omega
  have j1 : jv [(f, 1), (t, -1)] f = 1 := by simp only [jv]; rw [if_pos (Int.le_refl _), if_neg (by omega)]; rfl
  have j2 : jv [(f, 1), (t, -1)] t = 0 := by simp only [jv]; rw [if_pos (by omega), if_pos (Int.le_refl _)]; rfl
  unfold nmL inF
  by_cases ht : t = 1125899906842624
  · rw [if_pos ht, List.filter_cons_of_pos (by simpa using hf), List.filter_cons_of_neg (by simpa using ht), List.filter_nil]
    show tell _ [f] 0 = _
    simp only [tell, j1]
    rfl
  · rw [if_neg ht, List.filter_cons_of_pos (by simpa using hf), List.filter_cons_of_pos (by simpa using ht), List.filter_nil]
    have hp : plc [] [((f, 1) : Jp), (t, -1)] = [f, t] := by
      show ins (ins [] f) t = _
      have : ins [] f = [f] := rfl
      rw [this]
      unfold ins
      rw [if_neg (by simp; omega), List.filter_cons_of_pos (by simpa using h1), List.filter_cons_of_neg (by simp; omega)]
      rfl
    rw [hp]
    simp only [tell, j1, j2]
    rfl
theorem once_ok {r : List Vl} {f t : Int} (h : ofE r f t = 0) : mayR r = true ∧ mayE (ofR r f t) = true ∧ tabE (ofR r f t) = true ∧ atV (jmps (ofR r f t) r) f = 1 := by
  have ha : mayR r = true := by
    unfold ofE at h
    cases hh : mayR r
    · rw [hh] at h; simp at h
    · rfl
  have hb : smayB f t = true := by
    unfold ofE at h
    rw [ha] at h
    cases hh : smayB f t
    · rw [hh] at h; simp at h
    · rfl
  have hn : neE [(r, (f, 1)), (r, (t, -1))] = 0 := by unfold ofE at h; rw [ha, hb] at h; simpa using h
  have hR : ofR r f t = neR [(r, (f, 1)), (r, (t, -1))] := by unfold ofR; rw [if_pos h]
  have hm : mayE (ofR r f t) = true := by rw [hR]; exact ne_may hn
  obtain ⟨h1, h2, h3⟩ := ne_zero hn
  have hv : ∀ e ∈ [((r, (f, 1)) : Ed), (r, (t, -1))], mayR e.1 = true := fun e he => by
    simp at he; rcases he with rfl | rfl <;> exact ha
  obtain ⟨k1, k2, k3⟩ := each_zero h2
  have hj : jmps (ofR r f t) r = nmL [(f, 1), (t, -1)] := by
    rw [hR, h3, jmps_each (by rw [nmOp_nil]) hv r, once_jmps]
    have h0 := op_rows (op := nmOp) (by rw [nmOp_nil]) hv k1 r
    rw [once_jmps] at h0
    unfold nmOp at h0 ⊢
    simp only at h0 ⊢
    unfold nmR
    rw [if_pos h0]
  have hmj : mayJ (nmL [(f, 1), (t, -1)]) = true := by rw [← hj]; exact mayJ_rows hm r
  obtain ⟨g1, g2, g3, g4, g5⟩ := mayB_lt hb
  have hnm := once_nm hb
  have hlow : jv (nmL [(f, 1), (t, -1)]) (-1) = 0 := by
    rw [hnm]; split
    · simp only [jv]; rw [if_neg (by omega)]; rfl
    · simp only [jv]; rw [if_neg (by omega), if_neg (by omega)]; rfl
  have hat : jv (nmL [(f, 1), (t, -1)]) f = 1 := by
    rw [hnm]; split
    · simp only [jv]; rw [if_pos (Int.le_refl _)]; rfl
    · simp only [jv]; rw [if_pos (Int.le_refl _), if_neg (by omega)]; rfl
  refine ⟨ha, hm, ?_, by unfold atV; rw [hj, if_pos hmj, hat]⟩
  rw [tabE_rows hm, List.all_eq_true]
  intro q hq
  rw [decide_eq_true_iff]
  have hq2 : q = r := by
    have hne : jmps (ofR r f t) q ≠ [] := (mem_rows (mayE_rise hm).1 q).1 hq
    rw [hR, h3, jmps_each (by rw [nmOp_nil]) hv q] at hne
    by_cases e : q = r
    · exact e
    · exfalso; apply hne
      have : jmps [((r, (f, 1)) : Ed), (r, (t, -1))] q = [] := by simp [jmps, Ne.symm e]
      rw [this, nmOp_nil]
  subst hq2
  unfold leV
  rw [hj, if_pos hmj, hlow]
  unfold leF
  have hb2 : ∀ j ∈ nmL [(f, 1), (t, -1)], 0 ≤ jv (nmL [(f, 1), (t, -1)]) j.1 := by
    intro j hj
    rw [hnm] at hj ⊢
    split at hj
    · rename_i e
      rw [if_pos e]
      simp at hj
      subst hj
      simp [jv]
    · rename_i e
      rw [if_neg e]
      simp at hj
      rcases hj with rfl | rfl
      · simp only [jv]; rw [if_pos (Int.le_refl _), if_neg (by omega)]; decide
      · simp only [jv]; rw [if_pos (by omega), if_pos (Int.le_refl _)]; decide
  have key : ∀ (g : List Jp) (m : Int), 0 ≤ m → (∀ j ∈ g, 0 ≤ jv (nmL [(f, 1), (t, -1)]) j.1) → 0 ≤ g.foldl (fun m j => min m (jv (nmL [(f, 1), (t, -1)]) j.1)) m := by
    intro g
    induction g with
    | nil => intro m h _; exact h
    | cons a g ih =>
      intro m h hg
      refine ih _ ?_ fun j hj => hg j (by simp [hj])
      have := hg a (by simp)
      show (0 : Int) ≤ min m (jv (nmL [(f, 1), (t, -1)]) a.1)
      omega
  exact key _ _ (Int.le_refl _) hb2
set_option maxHeartbeats 4000000 in
set_option maxRecDepth 100000 in
theorem refEdgeAdd_c (L M : List Ve) (hLM : L.length + M.length ≤ 1024) (v u : Value) (w : World) (hl : Ew w [] v L) (hm : Ew w [] u M) : Calls Tryz.prog 29 #[v, u] w fun e w' => ∃ v' N, e = .returned (.tuple #[v', .int .i64 (adE (eds L) (eds M))]) ∧ eds N = adR (eds L) (eds M) ∧ OwnEr w' w.heap.size v' N ∧ Ext w w' := by
  have h1 := hide (fun w' (hX : Ext w w') => refEdgeMay_c L v w' (hl.ext hX))
  have h2 := hide (fun w' (hX : Ext w w') => refEdgeMay_c M u w' (hm.ext hX))
  have hX0 := hide (Ext.refl w)
  have hl' := hide hl
  have hm' := hide hm
  obtain ⟨A, cap, rfl, hlc, hlm, -⟩ := ew_form hl
  obtain ⟨B, cap2, rfl, hmc, hmm, -⟩ := ew_form hm
  obtain ⟨E, hE⟩ : ∃ E, E = adE (eds L) (eds M) := ⟨_, rfl⟩
  obtain ⟨R, hR⟩ : ∃ R, R = adR (eds L) (eds M) := ⟨_, rfl⟩
  rw [← hE, ← hR]
  unfold adR at hR
  rw [← hE] at hR
  unfold adE at hE
  clear hl hm
  cases ha : mayE (eds L)
  · rw [ha, Bool.false_and, if_neg (by decide)] at hE
    rw [ha] at h1
    subst hE
    replace hR : R = [] := by rw [hR, if_neg (by decide)]
    replace hR := hide hR
    go_enter Tryz.func29, Tryz.ntmps29
    go_wp2_with (go_at_call 28; (with_reducible refine seq_gw (h1.out _ hX0.out) ?_); intro g)
    go_returns
    exact ⟨_, [], rfl, by rw [hR.out]; rfl, OwnEr.nil _ _, g.grown⟩
  cases hb : mayE (eds M)
  · rw [ha, hb, Bool.true_and, if_neg (by decide)] at hE
    rw [ha] at h1
    rw [hb] at h2
    subst hE
    replace hR : R = [] := by rw [hR, if_neg (by decide)]
    replace hR := hide hR
    go_enter Tryz.func29, Tryz.ntmps29
    go_wp2_with (first | (go_at_call 28; (with_reducible refine seq_gw (h1.out _ hX0.out) ?_); intro g) | (go_at_call 28; (with_reducible refine seq_gw' (h2.out _ g.grown) ?_); intro g2))
    go_returns
    exact ⟨_, [], rfl, by rw [hR.out]; rfl, OwnEr.nil _ _, g2.grown⟩
  rw [ha, hb, Bool.true_and, if_pos rfl] at hE
  rw [ha] at h1
  rw [hb] at h2
  have hR2 : Hid (R = neR (eds L ++ eds M)) := by
    show R = _
    rw [hR]
    split
    · rfl
    · rename_i h; rw [hE] at h; rw [neR_bad h]
  have hlit := hide (fun (W : World) => World.ownsRow_lit (base := W.heap.size) (e := 44) (size := 3) W #[] 0 (Nat.le_refl _) (by decide) rfl)
  have heq : Hid (eds (L ++ M) = eds L ++ eds M) := by show _ = _; simp [eds]
  replace hE := hide hE
  clear hR ha hb
  go_enter Tryz.func29, Tryz.ntmps29
  go_wp2_with (first | (go_at_call 28; (with_reducible refine seq_gw (h1.out _ hX0.out) ?_); intro g) | (go_at_call 28; (with_reducible refine seq_gw' (h2.out _ g.grown) ?_); intro g2) | (at_builtin; first | (refine wpl_app tEdg rfl (.tmp 14) (.tmp 15) rfl rfl (hlit.out g2.val) rfl (src_sl Tryz.underlying34 (hl'.out.ext (g2.grown.alloc _)).1 (hl'.out.ext (g2.grown.alloc (.cells #[] 44))).one (by omega)) (by unfold maxLen; omega) (by omega) (by simp) ?_; intro v1 w1 ho1 hg1 _; have hX1 := hide (ext_grown ((Ext.refl g2.val).alloc (.cells #[] 44)) hg1 (fun q hq => ((hlit.out g2.val).lt q hq).1))) | (refine wpl_app tEdg rfl (.tmp 16) (.tmp 17) rfl rfl ho1 rfl (src_sl Tryz.underlying34 (hm'.out.ext (g2.grown.trans hX1.out)).1 (hm'.out.ext (g2.grown.trans hX1.out)).one (by omega)) (by unfold maxLen; omega) (by omega) hX1.out.size ?_; intro v2 w2 ho2 hg2 _; have hX2 := hide (ext_grown hX1.out hg2 (fun q hq => (ho1.lt q hq).1)); have hX4 := hide (g2.grown.trans hX2.out))) | (go_at_call 52; refine (refEdgeNorm_c (L ++ M) (by rw [List.length_append]; omega) _ _ (own_two hl'.out hm'.out hX4.out ho2)).mono ?_; rintro ee w5 ⟨v5, N, rfl, hN, ho5, hX5⟩))
  go_returns
  exact ⟨_, N, by rw [hE.out]; rfl, by rw [hN, hR2.out, heq.out], ho5.lower hX4.out.size, hX4.out.trans hX5⟩
end Go.Proofs.YtjmoifbajjemmaaGreat
set_option linter.unusedVariables false
set_option linter.unusedSimpArgs false
namespace Go.Proofs.YtjmoifbajjemmaaGreat
open Go.RowKit
attribute [local go_sem] GW.cell GW.frozen In.eq_true In.le_true In.ne In.ne' In.ne_add In.ne_add' In.lt_add Upto.le_true Upto.le_add Upto.lt_add
theorem tick_gw (t : Int) (w : World) : Calls Tryz.prog 30 #[.int .i64 t] w fun e w' => e = .returned (.bool (isTickB t)) ∧ Ext w w' := (tick_c t w).mono fun e w' ⟨h1, h2⟩ => ⟨h1, by subst h2; exact Ext.refl _⟩
set_option maxHeartbeats 8000000 in
set_option maxRecDepth 100000 in
theorem refAlRaise_c (S : List Nat) (r cb hb cc hc : Nat) (st : List Hi) (k t : Int) (w : World) (h : RA w S r cb hb cc hc st) : Calls Tryz.prog 15 #[.pointer (some ⟨r, 0, none⟩), .int .i64 k, .int .i64 t] w fun e w' => e = .returned (.int .i64 (raiE (absX st) k t)) ∧ (∃ st', absX st' = raiX (absX st) k t ∧ RA w' S r cb hb cc hc st') ∧ Fr [cb] w w' := by
  have hT := hide (fun w' => tick_gw t w')
  have r0 := h.1.1.cell 0 rfl
  have hlt := h.1.1.lt
  haveI : In r w := ⟨hlt⟩
  by_cases h1 : k < 0 ∨ (st.length : Int) ≤ k
  · have e1 : raiE (absX st) k t = 3 := by unfold raiE; rw [if_pos (by rw [absX_len]; exact h1)]
    have e2 : raiX (absX st) k t = absX st := by unfold raiX; rw [e1, if_neg (by decide)]
    rw [e1, e2]
    have hh := hide h
    clear h e1 e2
    by_cases h0 : k < 0
    · have d1 : decide (k < 0) = true := decide_eq_true h0
      clear h1
      go_enter Tryz.func15, Tryz.ntmps15
      go_wp2_with fail
      go_returns
      exact ⟨rfl, ⟨st, rfl, hh.out⟩, Fr.refl _ _⟩
    · have d1 : decide (k < 0) = false := decide_eq_false h0
      have h2 : (st.length : Int) ≤ k := by omega
      have d2 : decide ((st.length : Int) ≤ k) = true := decide_eq_true h2
      clear h1
      go_enter Tryz.func15, Tryz.ntmps15
      go_wp2_with fail
      go_returns
      exact ⟨rfl, ⟨st, rfl, hh.out⟩, Fr.refl _ _⟩
  · obtain ⟨i, rfl⟩ : ∃ i : Nat, k = i := ⟨k.toNat, by omega⟩
    obtain ⟨⟨c, v, L⟩, hp⟩ : ∃ p, st[i]? = some p := ⟨_, List.getElem?_eq_getElem (by omega)⟩
    have hg := absX_get hp
    have i0 := h.clock hp
    have if0 := World.ownsRow.frozenAt h.1.2.1 i
    have hcl := h.cblt
    haveI : In cb w := ⟨hcl⟩
    have hiI : (i : Int) < st.length := by omega
    have d1 : decide ((i : Int) < 0) = false := decide_eq_false (by omega)
    have d2 : decide ((st.length : Int) ≤ i) = false := decide_eq_false (by omega)
    simp only at hg i0
    have hE : raiE (absX st) i t = if t < 0 ∨ 1125899906842624 < t then 13 else if t < c then 16 else 0 := by
      unfold raiE
      rw [if_neg (by rw [absX_len]; exact h1), Int.toNat_natCast, hg]
    have hX : raiX (absX st) i t = if raiE (absX st) i t = 0 then absX (st.set i (t, v, L)) else absX st := by
      unfold raiX
      rw [Int.toNat_natCast, hg, absX_set]
    have hh := hide h
    have hph := hide hp
    by_cases t1 : t < 0 ∨ 1125899906842624 < t
    · rw [if_pos t1] at hE
      rw [hX, hE, if_neg (by decide)]
      rw [show isTickB t = false by unfold isTickB; simp; omega] at hT
      clear h h1 hp hg hE hX t1
      go_enter Tryz.func15, Tryz.ntmps15
      go_wp2_with (go_at_call 30; (with_reducible refine seq_gw (hT.out _) ?_); intro g)
      go_returns
      exact ⟨rfl, ⟨st, rfl, hh.out.ext g.grown⟩, Fr.of_ext g.grown⟩
    · rw [if_neg t1] at hE
      rw [show isTickB t = true by unfold isTickB; simp; omega] at hT
      by_cases t3 : t < c
      · have d3 : decide (t < c) = true := decide_eq_true t3
        rw [if_pos t3] at hE
        rw [hX, hE, if_neg (by decide)]
        clear h h1 hp hg hE hX t1
        go_enter Tryz.func15, Tryz.ntmps15
        go_wp2_with (go_at_call 30; (with_reducible refine seq_gw (hT.out _) ?_); intro g)
        go_returns
        exact ⟨rfl, ⟨st, rfl, hh.out.ext g.grown⟩, Fr.of_ext g.grown⟩
      · have d3 : decide (t < c) = false := decide_eq_false t3
        rw [if_neg t3] at hE
        rw [hX, hE, if_pos rfl]
        clear h h1 hp hg hE hX t1
        replace t3 := hide t3
        go_enter Tryz.func15, Tryz.ntmps15
        go_wp2_with (go_at_call 30; (with_reducible refine seq_gw (hT.out _) ?_); intro g)
        go_returns
        exact ⟨rfl, ⟨_, rfl, (hh.out.ext g.grown).setC hph.out t⟩, (Fr.of_ext g.grown).setCell _ _ (.inl (by simp))⟩
set_option maxHeartbeats 8000000 in
set_option maxRecDepth 100000 in
theorem refAlPut_c (S : List Nat) (r cb hb cc hc : Nat) (st : List Hi) (k : Int) (u : Value) (M : List Ve) (hLM : ∀ p ∈ st, p.2.2.length + M.length ≤ 1024) (w : World) (h : RA w S r cb hb cc hc st) (hu : Ew w [] u M) (hS : ∀ b, b ∈ S → b < w.heap.size) : Calls Tryz.prog 13 #[.pointer (some ⟨r, 0, none⟩), .int .i64 k, u] w fun e w' => e = .returned (.int .i64 (putE (absX st) k (eds M))) ∧ (∃ st', absX st' = putX (absX st) k (eds M) ∧ RA w' S r cb hb cc hc st') ∧ Fr [hb] w w' := by
  have hY := hide (fun w' (hX : Ext w w') => refEdgeMay_c M u w' (hu.ext hX))
  have r0 := h.1.1.cell 0 rfl
  have r1 := h.1.1.cell 1 rfl
  have hlt := h.1.1.lt
  haveI : In r w := ⟨hlt⟩
  by_cases h1 : k < 0 ∨ (st.length : Int) ≤ k
  · have e1 : putE (absX st) k (eds M) = 3 := by unfold putE; rw [if_pos (by rw [absX_len]; exact h1)]
    have e2 : putX (absX st) k (eds M) = absX st := by unfold putX; rw [e1, if_neg (by decide)]
    rw [e1, e2]
    obtain ⟨UA, ucap, rfl⟩ := ew_one hu
    have hh := hide h
    clear h e1 e2 hu hLM
    by_cases h0 : k < 0
    · have d1 : decide (k < 0) = true := decide_eq_true h0
      clear h1
      go_enter Tryz.func13, Tryz.ntmps13
      go_wp2_with fail
      go_returns
      exact ⟨rfl, ⟨st, rfl, hh.out⟩, Fr.refl _ _⟩
    · have d1 : decide (k < 0) = false := decide_eq_false h0
      have h2 : (st.length : Int) ≤ k := by omega
      have d2 : decide ((st.length : Int) ≤ k) = true := decide_eq_true h2
      clear h1
      go_enter Tryz.func13, Tryz.ntmps13
      go_wp2_with fail
      go_returns
      exact ⟨rfl, ⟨st, rfl, hh.out⟩, Fr.refl _ _⟩
  · obtain ⟨i, rfl⟩ : ∃ i : Nat, k = i := ⟨k.toNat, by omega⟩
    obtain ⟨⟨c, v, L⟩, hp⟩ : ∃ p, st[i]? = some p := ⟨_, List.getElem?_eq_getElem (by omega)⟩
    have hg := absX_get hp
    have i0 := h.clock hp
    have i1 := h.hold hp
    have hcl := h.cblt
    have hhl := h.hblt
    haveI : In cb w := ⟨hcl⟩
    haveI : In hb w := ⟨hhl⟩
    have hiI : (i : Int) < st.length := by omega
    have d1 : decide ((i : Int) < 0) = false := decide_eq_false (by omega)
    have d2 : decide ((st.length : Int) ≤ i) = false := decide_eq_false (by omega)
    simp only at hg i0 i1
    have hvw := h.2.1 _ (List.mem_of_getElem? hp)
    have hlm := hLM _ (List.mem_of_getElem? hp)
    simp only at hvw hlm
    have hAd := hide (fun w' (hX : Ext w w') => refEdgeAdd_c L M hlm v u w' ((hvw.less (S' := []) (by simp)).ext hX) (hu.ext hX))
    have hE : putE (absX st) i (eds M) = if mayE (eds M) = false then 2 else if lateE c (eds M) = true then 16 else adE (eds L) (eds M) := by
      unfold putE
      rw [if_neg (by rw [absX_len]; exact h1), Int.toNat_natCast, hg]
    have hXe : putX (absX st) i (eds M) = if putE (absX st) i (eds M) = 0 then (absX st).set i (c, adR (eds L) (eds M)) else absX st := by
      unfold putX
      rw [Int.toNat_natCast, hg]
    have hh := hide h
    have hph := hide hp
    have hSh := hide hS
    obtain ⟨VA, vcap, rfl⟩ := ew_one hvw
    obtain ⟨UA, ucap, rfl, hul, hum, hat⟩ := ew_form hu
    replace hat := hide hat
    clear h h1 hp hg hvw hu hS hLM
    by_cases m1 : mayE (eds M) = false
    · rw [if_pos m1] at hE
      rw [hXe, hE, if_neg (by decide)]
      rw [m1] at hY
      clear hE hXe m1 hAd
      go_enter Tryz.func13, Tryz.ntmps13
      go_wp2_with (go_at_call 28; (with_reducible refine seq_gw (hY.out _ (Ext.refl _)) ?_); intro g)
      go_returns
      exact ⟨rfl, ⟨st, rfl, hh.out.ext g.grown⟩, Fr.of_ext g.grown⟩
    · have m2 : mayE (eds M) = true := by simpa using m1
      rw [if_neg m1] at hE
      rw [m2] at hY
      obtain ⟨E, hEe⟩ : ∃ E, E = putE (absX st) i (eds M) := ⟨_, rfl⟩
      obtain ⟨X, hXx⟩ : ∃ X, X = putX (absX st) i (eds M) := ⟨_, rfl⟩
      rw [← hEe, ← hXx]
      rw [← hEe] at hE hXe
      rw [← hXx] at hXe
      have hK1 := hide (show lateE c (eds M) = true → E = 16 ∧ X = absX st from fun q => by
        rw [if_pos q] at hE; rw [hXe, hE]; exact ⟨rfl, by rw [if_neg (by decide)]⟩)
      have hK2 := hide (show lateE c (eds M) = false → E = adE (eds L) (eds M) ∧ X = if E = 0 then (absX st).set i (c, adR (eds L) (eds M)) else absX st from fun q => by
        rw [if_neg (by rw [q]; decide)] at hE; exact ⟨hE, hXe⟩)
      clear hE hXe m1 m2 hEe hXx
      unfold maxLen at hum
      go_enter Tryz.func13, Tryz.ntmps13
      go_wp2_with (go_at_call 28; (with_reducible refine seq_gw (hY.out _ (Ext.refl _)) ?_); intro g)
      obtain ⟨W1, hW1⟩ : ∃ W1, W1 = g.val := ⟨_, rfl⟩
      have hX1 := hide (hW1 ▸ g.grown : Ext w W1)
      rw [← hW1]
      clear hW1
      go_loopg [7] M.length (fun gh j wr => ∃ (k : Nat), j = .int .i64 k ∧ k + gh = M.length ∧ Hid (lateE c (eds M) = lateE c (eds (M.drop k))) ∧ Ext w wr)
      case atStart => exact ⟨0, rfl, by omega, rfl, hX1.out⟩
      case round =>
        obtain ⟨k, rfl, hk, hl, hX⟩ := hrel
        have q0 := cell_later hX r0
        have q1 := cell_later hX r1
        have qi := cell_later hX i0
        have qh := cell_later hX i1
        have l1 : r < wr.heap.size := block_lt_of_cell q0
        have l2 : cb < wr.heap.size := block_lt_of_cell qi
        have l3 : hb < wr.heap.size := block_lt_of_cell qh
        haveI : In r wr := ⟨l1⟩
        haveI : In cb wr := ⟨l2⟩
        haveI : In hb wr := ⟨l3⟩
        by_cases hkM : k < M.length
        · obtain ⟨x, hx⟩ : ∃ x, M[k]? = some x := ⟨_, List.getElem?_eq_getElem hkM⟩
          obtain ⟨b, o, rfl, -, hbw, c0, c1, c2⟩ := hat.out k x hx
          have k1 := cell_later hX c1
          have hbr : b < wr.heap.size := block_lt_of_cell k1
          haveI : In b wr := ⟨hbr⟩
          have hkI : (k : Int) < M.length := by omega
          have hl2 := hl.out
          rw [drop_cons hx] at hl2
          obtain ⟨xv, xq, xa, xn⟩ := x
          simp only at k1
          have hl3 : lateE c (eds M) = (ahT c (xa, xn) || lateE c (eds (M.drop (k + 1)))) := by rw [hl2]; simp [lateE, eds]
          clear c0 c1 c2 hx hl hl2
          by_cases hc2 : xa < c
          · have d5 : decide (xa < c) = true := decide_eq_true hc2
            have hf := hide (hK1.out (by rw [hl3]; simp [ahT, hc2]))
            clear hl3
            go_wp2_with fail
            go_quiet (fail)
            go_wp2_with fail
            go_returns
            exact ⟨by rw [hf.out.1]; rfl, ⟨st, by rw [hf.out.2], hh.out.ext (hX.trans (by first | exact Ext.refl _ | exact (Ext.refl _).drew | exact (Ext.refl _).drewN _))⟩, Fr.of_ext (hX.trans (by first | exact Ext.refl _ | exact (Ext.refl _).drew | exact (Ext.refl _).drewN _))⟩
          · have d5 : decide (xa < c) = false := decide_eq_false hc2
            have hnx := hide (show lateE c (eds M) = lateE c (eds (M.drop (k + 1))) by rw [hl3]; simp [ahT, hc2])
            clear hl3
            go_wp2_with fail
            go_quiet (fail)
            go_wp2_with fail
            go_roundg (M.length - (k + 1))
            case measure => omega
            case rel => exact ⟨k + 1, by go_num, by omega, hnx, hX.trans (by first | exact Ext.refl _ | exact (Ext.refl _).drew | exact (Ext.refl _).drewN _)⟩
        · have hge : (M.length : Int) ≤ k := by omega
          have hl2 := hl.out
          rw [List.drop_eq_nil_of_le (by omega)] at hl2
          have hf := hK2.out (by rw [hl2]; rfl)
          have if1 := World.ownsRow.frozenAt (hh.out.ext hX).1.2.2 i
          have hAw := hide (hAd.out wr hX)
          by_cases e0 : adE (eds L) (eds M) = 0
          · rw [e0] at hf hAw
            obtain ⟨f1, f2⟩ := hf
            rw [if_pos f1] at f2
            subst f1
            replace f2 := hide f2
            clear hK1 hK2 hl hl2 hat hAd
            go_wp2_with (go_at_call 29; (refine hAw.out.mono ?_; rintro ee w5 ⟨v5, N5, rfl, hN5, o5, x5⟩; have X5 := hide (hX.trans x5); have o5w := ownEr_ew (S := S) o5 (fun b hb => Nat.lt_of_lt_of_le (hSh.out b hb) hX.size); obtain ⟨A5, c5, q5⟩ := ew_one o5w; subst q5; have f1 := World.ownsRow.frozenAt (hh.out.ext X5.out).1.2.2 i; have q5c := cell_later X5.out i1; have q5r := cell_later X5.out r1; have ql := block_lt_of_cell q5c; have qr := block_lt_of_cell q5r; haveI : In hb w5 := ⟨ql⟩; haveI : In r w5 := ⟨qr⟩; replace o5w := hide o5w; clear o5 x5; replace hN5 := hide hN5))
            go_returns
            refine ⟨rfl, ⟨st.set i (c, .slice A5 N5.length c5, N5), ?_, (hh.out.ext X5.out).setH hph.out o5w.out⟩, (Fr.of_ext X5.out).setCell _ _ (.inl (by simp))⟩
            rw [absX_set, hN5.out, f2.out]
          · obtain ⟨f1, f2⟩ := hf
            rw [if_neg (by rw [f1]; exact e0)] at f2
            have e1 : (E != 0) = true := by rw [f1]; simp [e0]
            rw [← f1] at hAw
            replace f2 := hide f2
            clear hK1 hK2 hl hl2 hat hAd f1 e0
            go_wp2_with (go_at_call 29; (refine hAw.out.mono ?_; rintro ee w5 ⟨v5, N5, rfl, hN5, o5, x5⟩; have X5 := hide (hX.trans x5); obtain ⟨A5, c5, q5⟩ := own_form o5.1; subst q5; clear o5 x5 hN5))
            go_returns
            exact ⟨rfl, ⟨st, by rw [f2.out], hh.out.ext X5.out⟩, Fr.of_ext X5.out⟩
end Go.Proofs.YtjmoifbajjemmaaGreat
