/-
  A helper of ours: no claim of its own. Layer 16 (align): what an input takes in, and its clock, by the code.
-/
import Derived.Test.YtjmoifbajjemmaaGreatAlnA
set_option linter.unusedVariables false
set_option linter.unusedSimpArgs false
namespace Go.Proofs.YtjmoifbajjemmaaGreat
open Go.RowKit
attribute [local go_sem] GW.cell GW.frozen In.eq_true In.le_true In.ne In.ne' In.ne_add In.ne_add' In.lt_add Upto.le_true Upto.le_add Upto.lt_add
theorem hic_setC : ∀ (st : List Hi) (i : Nat) (c c' : Int) (v : Value) (L : List Ve), st[i]? = some (c, v, L) → hic (st.set i (c', v, L)) = (hic st).set (i * 2) (.int .i64 c')
  | [], i, c, c', v, L, h => by simp at h
  | q :: r, 0, c, c', v, L, h => by simp at h; subst h; simp [hic]
  | q :: r, i + 1, c, c', v, L, h => by
    have ih := hic_setC r i c c' v L (by simpa using h)
    rw [List.set_cons_succ, show (i + 1) * 2 = i * 2 + 1 + 1 by omega]
    simp only [hic, List.flatMap_cons, List.cons_append, List.nil_append, List.set_cons_succ] at ih ⊢
    rw [ih]
theorem hic_setH : ∀ (st : List Hi) (i : Nat) (c : Int) (v v' : Value) (L N : List Ve), st[i]? = some (c, v, L) → hic (st.set i (c, v', N)) = (hic st).set (i * 2 + 1) v'
  | [], i, c, v, v', L, N, h => by simp at h
  | q :: r, 0, c, v, v', L, N, h => by simp at h; subst h; simp [hic]
  | q :: r, i + 1, c, v, v', L, N, h => by
    have ih := hic_setH r i c v v' L N (by simpa using h)
    rw [List.set_cons_succ, show (i + 1) * 2 + 1 = i * 2 + 1 + 1 + 1 by omega]
    simp only [hic, List.flatMap_cons, List.cons_append, List.nil_append, List.set_cons_succ] at ih ⊢
    rw [ih]
section
variable {w : World} {S : List Nat} {a ia i : Nat} {st : List Hi} {c : Int} {v : Value} {L : List Ve}
theorem IA.setC (h : IA w S a ia st) (hi : st[i]? = some (c, v, L)) (c' : Int) : IA (w.setCell ⟨ia, i * 2, none⟩ (.int .i64 c')) S a ia (st.set i (c', v, L)) := by
  have hF := (Fr.refl [ia] w).setCell ⟨ia, i * 2, none⟩ (.int .i64 c') (.inl (by simp))
  refine ⟨⟨?_, ?_⟩, fun p hp => ?_, h.2.2⟩
  · rw [List.length_set]; exact h.1.1.far _ _ h.2.2.2
  · rw [hic_setC st i c c' v L hi]; exact h.1.2.set _ _
  · have hm : p = (c', v, L) ∨ p ∈ st := mem_set_of hp
    rcases hm with rfl | hm
    · exact Ew.fr (h.2.1 (c, v, L) (List.mem_of_getElem? hi)) hF (by simp [h.2.2.1.2])
    · exact Ew.fr (h.2.1 _ hm) hF (by simp [h.2.2.1.2])
theorem IA.setH (h : IA w S a ia st) (hi : st[i]? = some (c, v, L)) {v' : Value} {N : List Ve} (hn : Ew w S v' N) : IA (w.setCell ⟨ia, i * 2 + 1, none⟩ v') S a ia (st.set i (c, v', N)) := by
  have hF := (Fr.refl [ia] w).setCell ⟨ia, i * 2 + 1, none⟩ v' (.inl (by simp))
  refine ⟨⟨?_, ?_⟩, fun p hp => ?_, h.2.2⟩
  · rw [List.length_set]; exact h.1.1.far _ _ h.2.2.2
  · rw [hic_setH st i c v v' L N hi]; exact h.1.2.set _ _
  · have hm : p = (c, v', N) ∨ p ∈ st := mem_set_of hp
    rcases hm with rfl | hm
    · exact Ew.fr hn hF (by simp [h.2.2.1.2])
    · exact Ew.fr (h.2.1 _ hm) hF (by simp [h.2.2.1.2])
theorem absX_get {i : Nat} {p : Hi} (h : st[i]? = some p) : (absX st)[i]? = some (p.1, eds p.2.2) := by rw [List.getElem?_map, h]; rfl
theorem absX_len : (absX st).length = st.length := by simp [absX]
theorem absX_set (i : Nat) (p : Hi) : absX (st.set i p) = (absX st).set i (p.1, eds p.2.2) := by simp [absX, List.map_set]
theorem ownEr_ew {base : Nat} (h : OwnEr w base v L) (hs : ∀ b, b ∈ S → b < base) : Ew w S v L :=
  ⟨Sl.own h.1 hs, fun p hp => Sl.less (h.2 p hp) fun k hk => List.mem_append_right _ (List.mem_range.2 (hs k hk))⟩
end
set_option maxHeartbeats 4000000 in
set_option maxRecDepth 100000 in
theorem alRaise_c (S : List Nat) (a ia : Nat) (st : List Hi) (k t : Int) (w : World) (h : IA w S a ia st) : Calls Tryz.prog 14 #[.pointer (some ⟨a, 0, none⟩), .int .i64 k, .int .i64 t] w fun e w' => e = .returned (.int .i64 (raiE (absX st) k t)) ∧ (∃ st', absX st' = raiX (absX st) k t ∧ IA w' S a ia st') ∧ Fr [ia] w w' := by
  have hM := hide (fun w' (hX : Ext w w') => alMay_c S a ia st k w' (h.ext hX))
  have hlt := h.1.1.lt
  haveI : In a w := ⟨hlt⟩
  by_cases h1 : k < 0 ∨ (st.length : Int) ≤ k
  · have e1 : raiE (absX st) k t = 3 := by unfold raiE; rw [if_pos (by rw [absX_len]; exact h1)]
    have e2 : raiX (absX st) k t = absX st := by unfold raiX; rw [e1, if_neg (by decide)]
    unfold mayK at hM
    rw [if_pos h1] at hM
    rw [e1, e2]
    have hh := hide h
    clear h h1 e1 e2
    go_enter Tryz.func14, Tryz.ntmps14
    go_wp2_with (go_at_call 24; (with_reducible refine seq_gw (hM.out _ (Ext.refl _)) ?_); intro g)
    go_returns
    exact ⟨rfl, ⟨st, rfl, hh.out.ext g.grown⟩, Fr.of_ext g.grown⟩
  · unfold mayK at hM
    rw [if_neg h1] at hM
    obtain ⟨i, rfl⟩ : ∃ i : Nat, k = i := ⟨k.toNat, by omega⟩
    obtain ⟨⟨c, v, L⟩, hp⟩ : ∃ p, st[i]? = some p := ⟨_, List.getElem?_eq_getElem (by omega)⟩
    have hg := absX_get hp
    have a0 := h.1.1.cell 0 rfl
    have i0 := h.1.2.cell _ (hic_get st i _ hp).1
    have if0 := h.1.2.free (i * 2)
    have hil := h.1.2.lt
    haveI : In ia w := ⟨hil⟩
    have hiI : (i : Int) < st.length := by omega
    simp only at hg i0
    have hE : raiE (absX st) i t = if t < 0 ∨ 1125899906842624 < t then 13 else if t < c then 16 else 0 := by
      unfold raiE
      rw [if_neg (by rw [absX_len]; exact h1), Int.toNat_natCast, hg]
    have hX : raiX (absX st) i t = if raiE (absX st) i t = 0 then absX (st.set i (t, v, L)) else absX st := by
      unfold raiX
      rw [Int.toNat_natCast, hg, absX_set]
    have hh := hide h
    have hph := hide hp
    by_cases t1 : t < 0
    · have d1 : decide (t < 0) = true := decide_eq_true t1
      rw [if_pos (.inl t1)] at hE
      rw [hX, hE, if_neg (by decide)]
      clear h h1 hp hg hE hX
      go_enter Tryz.func14, Tryz.ntmps14
      go_wp2_with (go_at_call 24; (with_reducible refine seq_gw (hM.out _ (Ext.refl _)) ?_); intro g)
      go_returns
      exact ⟨rfl, ⟨st, rfl, hh.out.ext g.grown⟩, Fr.of_ext g.grown⟩
    · have d1 : decide (t < 0) = false := decide_eq_false t1
      by_cases t2 : 1125899906842624 < t
      · have d2 : decide (1125899906842624 < t) = true := decide_eq_true t2
        rw [if_pos (.inr t2)] at hE
        rw [hX, hE, if_neg (by decide)]
        clear h h1 hp hg hE hX
        go_enter Tryz.func14, Tryz.ntmps14
        go_wp2_with (go_at_call 24; (with_reducible refine seq_gw (hM.out _ (Ext.refl _)) ?_); intro g)
        go_returns
        exact ⟨rfl, ⟨st, rfl, hh.out.ext g.grown⟩, Fr.of_ext g.grown⟩
      · have d2 : decide (1125899906842624 < t) = false := decide_eq_false t2
        rw [if_neg (by omega)] at hE
        by_cases t3 : t < c
        · have d3 : decide (t < c) = true := decide_eq_true t3
          rw [if_pos t3] at hE
          rw [hX, hE, if_neg (by decide)]
          clear h h1 hp hg hE hX
          replace t1 := hide t1
          replace t2 := hide t2
          go_enter Tryz.func14, Tryz.ntmps14
          go_wp2_with (go_at_call 24; (with_reducible refine seq_gw (hM.out _ (Ext.refl _)) ?_); intro g)
          go_returns
          exact ⟨rfl, ⟨st, rfl, hh.out.ext g.grown⟩, Fr.of_ext g.grown⟩
        · have d3 : decide (t < c) = false := decide_eq_false t3
          rw [if_neg t3] at hE
          rw [hX, hE, if_pos rfl]
          clear h h1 hp hg hE hX
          replace t1 := hide t1
          replace t2 := hide t2
          replace t3 := hide t3
          go_enter Tryz.func14, Tryz.ntmps14
          go_wp2_with (go_at_call 24; (with_reducible refine seq_gw (hM.out _ (Ext.refl _)) ?_); intro g)
          go_returns
          exact ⟨rfl, ⟨_, rfl, (hh.out.ext g.grown).setC hph.out t⟩, (Fr.of_ext g.grown).setCell _ _ (.inl (by simp))⟩
set_option maxHeartbeats 8000000 in
set_option maxRecDepth 100000 in
theorem alPut_c (S : List Nat) (a ia : Nat) (st : List Hi) (k : Int) (u : Value) (M : List Ve) (w : World) (h : IA w S a ia st) (hu : Ew w [] u M) (hS : ∀ b, b ∈ S → b < w.heap.size) : Calls Tryz.prog 12 #[.pointer (some ⟨a, 0, none⟩), .int .i64 k, u] w fun e w' => e = .returned (.int .i64 (putE (absX st) k (eds M))) ∧ (∃ st', absX st' = putX (absX st) k (eds M) ∧ IA w' S a ia st') ∧ Fr [ia] w w' := by
  have hM := hide (fun w' (hX : Ext w w') => alMay_c S a ia st k w' (h.ext hX))
  have hlt := h.1.1.lt
  haveI : In a w := ⟨hlt⟩
  have hY := hide (fun w' (hX : Ext w w') => edgeMay_c M u w' (hu.ext hX))
  have hC := hide (fun w' (hX : Ext w w') t cb (hcb : Ob w' cb 3 [.int .i64 t]) => containsAh_c t cb M u w' hcb (hu.ext hX))
  by_cases h1 : k < 0 ∨ (st.length : Int) ≤ k
  · have e1 : putE (absX st) k (eds M) = 3 := by unfold putE; rw [if_pos (by rw [absX_len]; exact h1)]
    have e2 : putX (absX st) k (eds M) = absX st := by unfold putX; rw [e1, if_neg (by decide)]
    unfold mayK at hM
    rw [if_pos h1] at hM
    rw [e1, e2]
    obtain ⟨UA, ucap, rfl⟩ := ew_one hu
    have hh := hide h
    clear h h1 e1 e2 hu
    go_enter Tryz.func12, Tryz.ntmps12
    go_wp2_with (go_at_call 24; (with_reducible refine seq_gw (hM.out _ (Ext.refl _)) ?_); intro g)
    go_returns
    exact ⟨rfl, ⟨st, rfl, hh.out.ext g.grown⟩, Fr.of_ext g.grown⟩
  · unfold mayK at hM
    rw [if_neg h1] at hM
    obtain ⟨i, rfl⟩ : ∃ i : Nat, k = i := ⟨k.toNat, by omega⟩
    obtain ⟨⟨c, v, L⟩, hp⟩ : ∃ p, st[i]? = some p := ⟨_, List.getElem?_eq_getElem (by omega)⟩
    have hg := absX_get hp
    have a0 := h.1.1.cell 0 rfl
    have i0 := h.1.2.cell _ (hic_get st i _ hp).1
    have i1 := h.1.2.cell _ (hic_get st i _ hp).2
    have if1 := h.1.2.free (i * 2 + 1)
    have hil := h.1.2.lt
    haveI : In ia w := ⟨hil⟩
    have hiI : (i : Int) < st.length := by omega
    simp only at hg i0 i1
    have hvw := h.2.1 _ (List.mem_of_getElem? hp)
    simp only at hvw
    have hAd := hide (fun w' (hX : Ext w w') => edgeAdd_c L M v u w' ((hvw.less (S' := []) (by simp)).ext hX) (hu.ext hX))
    have hE : putE (absX st) i (eds M) = if mayE (eds M) = false then 2 else if lateE c (eds M) = true then 16 else adE (eds L) (eds M) := by
      unfold putE
      rw [if_neg (by rw [absX_len]; exact h1), Int.toNat_natCast, hg]
    have hXe : putX (absX st) i (eds M) = if putE (absX st) i (eds M) = 0 then (absX st).set i (c, adR (eds L) (eds M)) else absX st := by
      unfold putX
      rw [Int.toNat_natCast, hg]
    have hh := hide h
    have hph := hide hp
    have hSh := hide hS
    obtain ⟨VA, vcap, rfl⟩ := ew_one hvw
    obtain ⟨UA, ucap, rfl⟩ := ew_one hu
    have hCl := hide (fun w' (hX : Ext w w') cb (hcb : Ob w' cb 3 [.int .i64 c]) => by have := hC.out w' hX c cb hcb; rw [late_all] at this; exact this)
    have hI := hide (fun w' => isAhead_c c w')
    clear h h1 hp hg hvw hu hS hC
    by_cases m1 : mayE (eds M) = false
    · rw [if_pos m1] at hE
      rw [hXe, hE, if_neg (by decide)]
      rw [m1] at hY
      clear hE hXe m1 hAd hCl
      go_enter Tryz.func12, Tryz.ntmps12
      go_wp2_with (first | (go_at_call 24; (with_reducible refine seq_gw (hM.out _ (Ext.refl _)) ?_); intro g) | (go_at_call 25; (with_reducible refine seq_gw' (hY.out _ g.grown) ?_); intro g2))
      go_returns
      exact ⟨rfl, ⟨st, rfl, hh.out.ext g2.grown⟩, Fr.of_ext g2.grown⟩
    · have m2 : mayE (eds M) = true := by simpa using m1
      rw [if_neg m1] at hE
      rw [m2] at hY
      by_cases l1 : lateE c (eds M) = true
      · rw [if_pos l1] at hE
        rw [hXe, hE, if_neg (by decide)]
        simp only [l1] at hCl
        clear hE hXe m1 m2 l1 hAd
        go_enter Tryz.func12, Tryz.ntmps12
        go_wp2_with (first | (go_at_call 24; (with_reducible refine seq_gw (hM.out _ (Ext.refl _)) ?_); intro g) | (go_at_call 25; (with_reducible refine seq_gw' (hY.out _ g.grown) ?_); intro g2) | (go_at_call 22; (refine (hI.out _).mono ?_; rintro ee w3 ⟨rfl, hcb, hx3⟩; have X3 := hide (g2.grown.trans hx3); replace hcb := hide hcb)) | (go_at_call 26; (with_reducible refine seq_gw (hCl.out _ X3.out _ hcb.out) ?_); intro g4))
        go_returns
        exact ⟨rfl, ⟨st, rfl, hh.out.ext (X3.out.trans g4.grown)⟩, Fr.of_ext (X3.out.trans g4.grown)⟩
      · rw [if_neg l1] at hE
        have l2 : lateE c (eds M) = false := by simpa using l1
        simp only [l2] at hCl
        by_cases e0 : adE (eds L) (eds M) = 0
        · rw [e0] at hE hAd
          rw [hXe, hE, if_pos rfl]
          clear hE hXe m1 m2 l1 l2 e0
          go_enter Tryz.func12, Tryz.ntmps12
          go_wp2_with (first | (go_at_call 24; (with_reducible refine seq_gw (hM.out _ (Ext.refl _)) ?_); intro g) | (go_at_call 25; (with_reducible refine seq_gw' (hY.out _ g.grown) ?_); intro g2) | (go_at_call 22; (refine (hI.out _).mono ?_; rintro ee w3 ⟨rfl, hcb, hx3⟩; have X3 := hide (g2.grown.trans hx3); have cl3 := hcb.lt; have j0 := cell_later X3.out i0; have j1 := cell_later X3.out i1; have jl := block_lt_of_cell j0; haveI : In ia w3 := ⟨jl⟩; replace hcb := hide hcb)) | (go_at_call 26; (with_reducible refine seq_gw (hCl.out _ X3.out _ hcb.out) ?_); intro g4) | (go_at_call 27; (refine (hAd.out _ (X3.out.trans g4.grown)).mono ?_; rintro ee w5 ⟨v5, N5, rfl, hN5, o5, x5⟩; have X5 := hide ((X3.out.trans g4.grown).trans x5); have o5w := ownEr_ew (S := S) o5 (fun b hb => Nat.lt_of_lt_of_le (hSh.out b hb) (X3.out.trans g4.grown).size); obtain ⟨A5, c5, q5⟩ := ew_one o5w; subst q5; have f1 := (hh.out.ext X5.out).1.2.free (i * 2 + 1); have q1 := cell_later X5.out i1; have ql := block_lt_of_cell q1; haveI : In ia w5 := ⟨ql⟩; replace o5w := hide o5w; replace hN5 := hide hN5; clear o5 x5)))
          go_returns
          refine ⟨rfl, ⟨st.set i (c, .slice A5 N5.length c5, N5), ?_, (hh.out.ext X5.out).setH hph.out o5w.out⟩, (Fr.of_ext X5.out).setCell _ _ (.inl (by simp))⟩
          rw [absX_set, hN5.out]
        · have e1 : (adE (eds L) (eds M) != 0) = true := by simp [e0]
          rw [hXe, hE, if_neg e0]
          generalize adE (eds L) (eds M) = E at *
          clear hE hXe m1 m2 l1 l2 e0
          go_enter Tryz.func12, Tryz.ntmps12
          go_wp2_with (first | (go_at_call 24; (with_reducible refine seq_gw (hM.out _ (Ext.refl _)) ?_); intro g) | (go_at_call 25; (with_reducible refine seq_gw' (hY.out _ g.grown) ?_); intro g2) | (go_at_call 22; (refine (hI.out _).mono ?_; rintro ee w3 ⟨rfl, hcb, hx3⟩; have X3 := hide (g2.grown.trans hx3); have cl3 := hcb.lt; have j0 := cell_later X3.out i0; have j1 := cell_later X3.out i1; have jl := block_lt_of_cell j0; haveI : In ia w3 := ⟨jl⟩; replace hcb := hide hcb)) | (go_at_call 26; (with_reducible refine seq_gw (hCl.out _ X3.out _ hcb.out) ?_); intro g4) | (go_at_call 27; (refine (hAd.out _ (X3.out.trans g4.grown)).mono ?_; rintro ee w5 ⟨v5, N5, rfl, hN5, o5, x5⟩; have X5 := hide ((X3.out.trans g4.grown).trans x5); obtain ⟨A5, c5, q5⟩ := own_form o5.1; subst q5; clear o5 x5 hN5)))
          go_returns
          exact ⟨rfl, ⟨st, rfl, hh.out.ext X5.out⟩, Fr.of_ext X5.out⟩
end Go.Proofs.YtjmoifbajjemmaaGreat
