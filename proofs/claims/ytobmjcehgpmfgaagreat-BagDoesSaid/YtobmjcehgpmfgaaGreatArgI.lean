/-
  A helper of ours: no claim of its own. Edges, opened: their rows' numbers are a machine's.
-/
import Derived.Test.YtobmjcehgpmfgaaGreatBagJ
import Derived.Test.YtobmjcehgpmfgaaGreatStepY1
import Derived.Test.YtobmjcehgpmfgaaGreatEdgMy
import Derived.Test.YtobmjcehgpmfgaaGreatBagS
import Derived.Test.YtobmjcehgpmfgaaGreatEdgMp
import Derived.Test.YtobmjcehgpmfgaaGreatPakQ
import Derived.Test.YtobmjcehgpmfgaaGreatMapV
import Derived.Test.YtobmjcehgpmfgaaGreatStepS
set_option linter.unusedVariables false
set_option linter.unusedSimpArgs false
namespace Go.Proofs.YtobmjcehgpmfgaaGreat
open Go.RowKit
attribute [local go_sem] GW.cell GW.frozen In.eq_true In.le_true In.ne In.ne' In.ne_add In.ne_add' In.lt_add Upto.le_true Upto.le_add Upto.lt_add
theorem adE_x {X l : List Ed} (hX : mayE X = true) (hl : mayE l = true) : adE X l = if neE (X ++ l) = 0 then 0 else 7 := by
  unfold adE
  rw [hX, hl, Bool.true_and, if_pos rfl]
  rcases up_err hX hl with ⟨h, -⟩ | ⟨h, -⟩ <;> rw [h] <;> rfl
set_option maxHeartbeats 2000000 in
theorem bagPieces_c (B mb n : Nat) (mk : Int) (T : List Fe) (X : List Ed) (w : World) (h : Bg rowB w [B, mb] B mb n mk T) (hx : BagX T X) : Calls Tryz.prog 26 #[.pointer (some ⟨B, 0, none⟩)] w fun e w' => ∃ v' M, e = .returned (.tuple #[v', .int .i64 (pcE X)]) ∧ eds M = pcR X ∧ OwnPr w' w.heap.size v' M ∧ Ext w w' := by
  have he := hide (bagEdges_c B mb n mk T X w h hx)
  clear h hx
  go_enter Tryz.func26, Tryz.ntmps26
  go_wp2_with (first | (go_at_call 25; refine he.out.mono ?_; rintro ee w1 ⟨v1, M1, rfl, hM1, ho1, hX1⟩; have hp := pieces_c M1 v1 w1 ho1.ew; rw [hM1] at hp; replace hp := hide hp; obtain ⟨A1, c1, rfl⟩ := own_form ho1.1; replace hX1 := hide hX1; clear ho1) | (go_at_call 86; refine hp.out.mono ?_; rintro ee w2 ⟨v2, M2, rfl, hM2, ho2, hX2⟩; obtain ⟨A2, c2, rfl⟩ := own_form ho2.1; replace hM2 := hide hM2; replace ho2 := hide ho2; replace hX2 := hide hX2))
  go_returns
  exact ⟨_, M2, rfl, hM2.out, ho2.out.lower hX1.out.size, hX1.out.trans hX2.out⟩
theorem re_err {X : List Ed} (hX : mayE X = true) {t : Int} (r : List Vl) : reE (jmps X r) t = 0 ∨ reE (jmps X r) t = 7 := by
  by_cases h : reE (jmps X r) t = 0
  · exact .inl h
  · exact .inr (re_two (mayJ_rows hX r) h)
theorem mp_re {X : List Ed} {t : Int} (hX : mayE X = true) (ht : t < 1125899906842624) : ((∀ r, reE (jmps X r) t = 0) ∧ mpE (reOp t) X = 0 ∧ mpR (reOp t) X = foX X t) ∨ ((∃ r, reE (jmps X r) t ≠ 0) ∧ mpE (reOp t) X = 7) := by
  have hgr := grp_eq (mayE_rise hX)
  have h7 : ∀ g ∈ grp X, ((reOp t) g.2).1 = 0 ∨ ((reOp t) g.2).1 = 7 := fun g hg => by
    rw [(grp_mem hX hg).1]; exact re_err hX g.1
  rcases evE_seven h7 with ⟨h1, h2⟩ | ⟨h1, g, hg, h2⟩
  · left
    have hall : ∀ r, reE (jmps X r) t = 0 := fun r => by
      by_cases hj : jmps X r = []
      · rw [hj]; exact (reR_nil ht).1
      · exact h2 (r, jmps X r) ((grp_iff hX _).2 ⟨rfl, hj⟩)
    have hlen := mayE_len (fo_may hX ht hall)
    have e0 : mpE (reOp t) X = 0 := by
      unfold mpE
      rw [if_pos hX]
      unfold eachE
      rw [h1, if_pos rfl]
      have e : evL (reOp t) (grp X) = foX X t := by unfold foX; rw [hgr]
      rw [e, if_neg (by omega)]
    exact ⟨hall, e0, (mp_zero e0).2.2⟩
  · right
    refine ⟨⟨g.1, ?_⟩, ?_⟩
    · rw [← (grp_mem hX hg).1]
      have : reE g.2 t = 7 := h2
      rw [this]; decide
    · unfold mpE
      rw [if_pos hX]
      unfold eachE
      rw [h1, if_neg (by decide)]
set_option maxHeartbeats 4000000 in
set_option maxRecDepth 100000 in
theorem refBagForget_c (r : Nat) (mk t : Int) (v : Value) (L : List Ve) (w : World) (h : Rbg w [r] r mk v L) (hL : L.length ≤ 1024) : Calls Tryz.prog 20 #[.pointer (some ⟨r, 0, none⟩), .int .i64 t] w fun e w' =>
    (t ≤ mk → e = .returned (.int .i64 0) ∧ Ext w w') ∧ (mk < t → e = .returned (.int .i64 (mpE (reOp t) (eds L))) ∧
      ((mpE (reOp t) (eds L) ≠ 0 ∧ Ext w w') ∨ (mpE (reOp t) (eds L) = 0 ∧ ∃ v' N, eds N = mpR (reOp t) (eds L) ∧ Rbg w' [r] r t v' N ∧ Fr [r] w w'))) := by
  have c1 := h.1.cell 1 rfl
  have c0 := h.1.cell 0 rfl
  have hlt := h.1.lt
  haveI : In r w := ⟨hlt⟩
  have hO := hide h.1
  obtain ⟨A, cap, rfl, -, -, -⟩ := ew_form h.2.1
  by_cases ht : t ≤ mk
  · clear h
    go_enter Tryz.func20, Tryz.ntmps20
    go_wp2_with fail
    go_returns
    exact ⟨fun _ => ⟨rfl, Ext.refl _⟩, fun h2 => by omega⟩
  · have hmp := hide (fun w' (hX : Ext w w') => refMapRest_c L t hL _ w' (Ew.less (h.2.1.ext hX) (by simp)))
    have hX0 := hide (Ext.refl w)
    obtain ⟨E, hE⟩ : ∃ E, E = mpE (reOp t) (eds L) := ⟨_, rfl⟩
    rw [← hE] at hmp ⊢
    replace hE := hide hE
    have ht' := hide ht
    clear h
    by_cases he : E = 0
    · subst he
      go_enter Tryz.func20, Tryz.ntmps20
      go_wp2_with (go_at_call 81; refine (hmp.out _ hX0.out).mono ?_; rintro ee w1 ⟨v1, N, rfl, hN, ho, hX⟩; obtain ⟨A1, c1', rfl⟩ := own_form ho.1; have O1 := hO.out.ext hX; have q0 := O1.cell 0 rfl; have q1 := O1.cell 1 rfl; have qf := fun i => O1.free i; have ql := O1.lt; haveI : In r w1 := ⟨ql⟩; have O1' := hide O1; have ho' := hide ho; have hN' := hide hN; have hX' := hide hX; clear O1 ho hN hX)
      go_returns
      have hF : Fr [r] w1 ((w1.setCell ⟨r, 0, none⟩ (.slice A1 N.length c1')).setCell ⟨r, 1, none⟩ (.int .i64 t)) := ((Fr.refl [r] w1).setCell ⟨r, 0, none⟩ _ (.inl (by simp))).setCell ⟨r, 1, none⟩ _ (.inl (by simp))
      have hEw : Ew w1 [r] (.slice A1 N.length c1') N := ⟨Sl.own ho'.out.1 (by simp; exact hlt), fun p hp => Sl.less (ho'.out.2 p hp) (by intro y hy; simp only [List.mem_singleton] at hy; subst hy; exact List.mem_append_right _ (List.mem_range.2 hlt))⟩
      refine ⟨fun h => by have := ht'.out; omega, fun _ => ⟨rfl, ?_⟩⟩
      first
        | exact .inr ⟨trivial, _, N, hN'.out, ⟨(O1'.out.set 0 _).set 1 _, hEw.fr hF (fun y hy => hy), by simp⟩, (Fr.of_ext hX'.out).trans hF⟩
        | exact ⟨_, N, hN'.out, ⟨(O1'.out.set 0 _).set 1 _, hEw.fr hF (fun y hy => hy), by simp⟩, (Fr.of_ext hX'.out).trans hF⟩
    · have heI : (E != 0) = true := by simpa using he
      have he' := hide he
      clear he
      go_enter Tryz.func20, Tryz.ntmps20
      go_wp2_with (go_at_call 81; refine (hmp.out _ hX0.out).mono ?_; rintro ee w1 ⟨v1, N, rfl, hN, ho, hX⟩; obtain ⟨A1, c1', rfl⟩ := own_form ho.1; replace hX := hide hX)
      go_returns
      exact ⟨fun h => by have := ht'.out; omega, fun _ => ⟨rfl, .inl ⟨he'.out, hX.out⟩⟩⟩
end Go.Proofs.YtobmjcehgpmfgaaGreat
set_option linter.unusedVariables false
set_option linter.unusedSimpArgs false
namespace Go.Proofs.YtobmjcehgpmfgaaGreat
open Go.RowKit
attribute [local go_sem] GW.cell GW.frozen In.eq_true In.le_true In.ne In.ne' In.ne_add In.ne_add' In.lt_add Upto.le_true Upto.le_add Upto.lt_add
theorem late_take {l : List Ed} {k : Nat} {e : Ed} {mk : Int} (h : (l.take k).all (fun e => !ltP mk e.2) = true) (he : l[k]? = some e) (hn : ltP mk e.2 = false) : (l.take (k + 1)).all (fun e => !ltP mk e.2) = true := by
  rw [List.take_add_one, he, Option.toList_some, List.all_append, h]
  simp [hn]
set_option maxHeartbeats 8000000 in
set_option maxRecDepth 100000 in
theorem refBagAdd_c (r : Nat) (mk : Int) (v : Value) (L M : List Ve) (u : Value) (w : World) (h : Rbg w [r] r mk v L) (hX : mayE (eds L) = true) (hLM : L.length + M.length ≤ 1024) (hu : Ew w [] u M) : Calls Tryz.prog 18 #[.pointer (some ⟨r, 0, none⟩), u] w fun e w' =>
    e = .returned (.int .i64 (baE (eds L) mk (eds M))) ∧ ((baE (eds L) mk (eds M) ≠ 0 ∧ Ext w w') ∨ (baE (eds L) mk (eds M) = 0 ∧ ∃ v' N, eds N = neR (eds L ++ eds M) ∧ Rbg w' [r] r mk v' N ∧ Fr [r] w w')) := by
  have hmy := hide (fun w' (hX : Ext w w') => refEdgeMay_c M u w' (hu.ext hX))
  have hO := hide h.1
  have hlt := h.1.lt
  have had := hide (fun w' (hX : Ext w w') => refEdgeAdd_c L M hLM v u w' (Ew.less (h.2.1.ext hX) (by simp)) (hu.ext hX))
  have htb := hide (fun (N : List Ve) (y : Value) w' (hw : Ew w' [] y N) => refEdgeTable_c N y w' hw)
  have hX0 := hide (Ext.refl w)
  obtain ⟨A, cap, rfl, -, -, -⟩ := ew_form h.2.1
  obtain ⟨UA, ucap, rfl, hul, hum, hat⟩ := ew_form hu
  unfold maxLen at hum
  replace hat := hide hat
  obtain ⟨E, hE⟩ : ∃ E, E = baE (eds L) mk (eds M) := ⟨_, rfl⟩
  rw [← hE]
  unfold baE at hE
  clear h hu
  cases hm : mayE (eds M)
  · rw [hm] at hmy hE
    rw [if_neg (by decide)] at hE
    subst hE
    clear had htb hat
    go_enter Tryz.func18, Tryz.ntmps18
    go_wp2_with (go_at_call 77; first | ((with_reducible refine seq_gw' (hmy.out _ hX0.out) ?_); intro g) | ((with_reducible refine seq_gw (hmy.out _ hX0.out) ?_); intro g))
    go_returns
    exact ⟨rfl, .inl ⟨by decide, g.grown⟩⟩
  rw [hm] at hmy hE
  rw [if_pos rfl] at hE
  have hax := adE_x hX hm
  rw [hax] at had
  have hml : M.length ≤ 1024 := by omega
  replace hE := hide hE
  replace hm := hide hm
  go_enter Tryz.func18, Tryz.ntmps18
  go_wp2_with (go_at_call 77; first | ((with_reducible refine seq_gw' (hmy.out _ hX0.out) ?_); intro g) | ((with_reducible refine seq_gw (hmy.out _ hX0.out) ?_); intro g))
  have hXg := hide g.grown
  go_loopg [5] M.length (fun gh i wr => ∃ (k : Nat), i = .int .i64 k ∧ k + gh = M.length ∧ Hid (((eds M).take k).all (fun e => !ltP mk e.2) = true) ∧ Ext w wr)
  case atStart => exact ⟨0, rfl, by omega, (by show _ = _; simp), hXg.out⟩
  case round =>
    obtain ⟨k, rfl, hk, hall, hXr⟩ := hrel
    clear hXg
    by_cases hlt2 : k < M.length
    · obtain ⟨⟨rv, q, ja, jn⟩, hp⟩ : ∃ p, M[k]? = some p := ⟨_, List.getElem?_eq_getElem hlt2⟩
      obtain ⟨b0, o0, rfl, -, hb0, c0, c1, c2⟩ := hat.out k _ hp
      have k1 := cell_later hXr c1
      have hbr : b0 < wr.heap.size := block_lt_of_cell k1
      haveI : In b0 wr := ⟨hbr⟩
      have O2 := hO.out.ext hXr
      have m1 := O2.cell 1 rfl
      have ml := O2.lt
      haveI : In r wr := ⟨ml⟩
      simp only at k1
      have hep : (eds M)[k]? = some (q, ja, jn) := by rw [eds, List.getElem?_map, hp]; rfl
      have hltI : (k : Int) < M.length := by omega
      have hXr' := hide hXr
      clear c0 c1 c2 O2 hp
      by_cases hlate : ja < mk
      · have d1 : decide (ja < mk) = true := decide_eq_true hlate
        have hE16 : E = 16 := by
          rw [hE.out, if_neg]
          rw [Bool.not_eq_true, List.all_eq_false]
          exact ⟨_, List.mem_of_getElem? hep, by unfold ltP; simp [hlate]⟩
        subst hE16
        go_wp2_with fail
        refine wp_region_gw (by kernel_rfl) (by kernel_rfl) ?_
        repeat (go_big_quiet_step (fail))
        refine wpQuiet_nil ?_
        intro g2
        go_wp2_with fail
        go_returns
        exact ⟨rfl, .inl ⟨by decide, hXr'.out.trans g2.grown⟩⟩
      · have d1 : decide (ja < mk) = false := decide_eq_false hlate
        have hn := hide (late_take hall.out hep (by unfold ltP; simp; omega))
        clear hall
        go_wp2_with fail
        refine wp_region_gw (by kernel_rfl) (by kernel_rfl) ?_
        repeat (go_big_quiet_step (fail))
        refine wpQuiet_nil ?_
        intro g2
        go_wp2_with fail
        go_roundg (M.length - (k + 1))
        case measure => omega
        case rel => exact ⟨k + 1, by go_num, by omega, hn, hXr'.out.trans g2.grown⟩
    · have hge : (M.length : Int) ≤ k := by omega
      have hal := hall.out
      rw [List.take_of_length_le (by simp only [eds, List.length_map]; omega)] at hal
      have hE2 := hE.out
      rw [if_pos hal] at hE2
      have O2 := hO.out.ext hXr
      have m0 := O2.cell 0 rfl
      have ml := O2.lt
      haveI : In r wr := ⟨ml⟩
      have hXr' := hide hXr
      clear hall O2 hal hE
      by_cases h1 : neE (eds L ++ eds M) = 0
      · rw [if_pos h1] at had hE2
        have hadR : adR (eds L) (eds M) = neR (eds L ++ eds M) := by unfold adR; rw [hax, if_pos h1, if_pos rfl]
        rw [hadR] at had
        replace h1 := hide h1
        cases ht : tabE (neR (eds L ++ eds M))
        · rw [ht, if_neg (by decide)] at hE2
          subst hE2
          go_wp2_with (first | (go_at_call 78; refine (had.out _ hXr'.out).mono ?_; rintro ee w3 ⟨v3, N, rfl, hN, ho, hX3⟩; have ht3 := htb.out N v3 w3 ho.ew; rw [hN, ht] at ht3; replace ht3 := hide ht3; obtain ⟨A3, c3, rfl⟩ := own_form ho.1; have hX3' := hide (hXr'.out.trans hX3); clear ho hX3) | (go_at_call 79; first | ((with_reducible refine seq_gw' ht3.out ?_); intro g4) | ((with_reducible refine seq_gw ht3.out ?_); intro g4)))
          go_returns
          exact ⟨rfl, .inl ⟨by decide, hX3'.out.trans g4.grown⟩⟩
        · rw [ht, if_pos rfl] at hE2
          subst hE2
          go_wp2_with (first | (go_at_call 78; refine (had.out _ hXr'.out).mono ?_; rintro ee w3 ⟨v3, N, rfl, hN, ho, hX3⟩; have ht3 := htb.out N v3 w3 ho.ew; rw [hN, ht] at ht3; replace ht3 := hide ht3; obtain ⟨A3, c3, rfl⟩ := own_form ho.1; have hX3' := hide (hXr'.out.trans hX3); have ho' := hide ho; have hN' := hide hN; have hz3 := hXr'.out.size; clear ho hX3 hN) | (go_at_call 79; first | ((with_reducible refine seq_gw' ht3.out ?_); intro g4; have O4 := hO.out.ext (hX3'.out.trans g4.grown); have q0 := O4.cell 0 rfl; have qf := O4.free 0; have ql := O4.lt; haveI : In r g4.val := ⟨ql⟩; have O4' := hide O4; clear O4) | ((with_reducible refine seq_gw ht3.out ?_); intro g4; have O4 := hO.out.ext (hX3'.out.trans g4.grown); have q0 := O4.cell 0 rfl; have qf := O4.free 0; have ql := O4.lt; haveI : In r g4.val := ⟨ql⟩; have O4' := hide O4; clear O4)))
          go_returns
          have hEw : Ew g4.val [r] (.slice A3 N.length c3) N := Ew.ext ⟨Sl.own ho'.out.1 (by simp; omega), fun p hp => Sl.less (ho'.out.2 p hp) (by intro y hy; simp only [List.mem_singleton] at hy; subst hy; exact List.mem_append_right _ (List.mem_range.2 (by omega)))⟩ g4.grown
          have hF : Fr [r] g4.val (g4.val.setCell ⟨r, 0, none⟩ (.slice A3 N.length c3)) := (Fr.refl [r] g4.val).setCell ⟨r, 0, none⟩ _ (.inl (by simp))
          refine ⟨rfl, ?_⟩
          first
            | exact .inr ⟨trivial, _, N, hN'.out, ⟨O4'.out.set 0 _, hEw.fr hF (fun y hy => hy), by simp⟩, (Fr.of_ext (hX3'.out.trans g4.grown)).trans hF⟩
            | exact .inr ⟨rfl, _, N, hN'.out, ⟨O4'.out.set 0 _, hEw.fr hF (fun y hy => hy), by simp⟩, (Fr.of_ext (hX3'.out.trans g4.grown)).trans hF⟩
            | exact ⟨_, N, hN'.out, ⟨O4'.out.set 0 _, hEw.fr hF (fun y hy => hy), by simp⟩, (Fr.of_ext (hX3'.out.trans g4.grown)).trans hF⟩
      · rw [if_neg h1] at had hE2
        subst hE2
        go_wp2_with (go_at_call 78; refine (had.out _ hXr'.out).mono ?_; rintro ee w3 ⟨v3, N, rfl, hN, ho, hX3⟩; obtain ⟨A3, c3, rfl⟩ := own_form ho.1; have hX3' := hide (hXr'.out.trans hX3); clear ho hX3)
        go_returns
        exact ⟨rfl, .inl ⟨by decide, hX3'.out⟩⟩
end Go.Proofs.YtobmjcehgpmfgaaGreat
set_option linter.unusedVariables false
set_option linter.unusedSimpArgs false
set_option linter.unusedSectionVars false
namespace Go.Proofs.YtobmjcehgpmfgaaGreat
open Go.RowKit
theorem reR_end {f : List Jp} {t : Int} (hf : mayJ f = true) (ht : 1125899906842624 ≤ t) : reE f t = 0 ∧ reR f t = [] := by
  have h2 : reL f t = [] := by unfold reL; rw [if_pos ht]
  have h3 : reE f t = 0 := reE_zero.2 ⟨hf, by rw [h2]; decide⟩
  exact ⟨h3, by unfold reR; rw [if_pos h3, h2]⟩
theorem foX_end {X : List Ed} {t : Int} (hX : mayE X = true) (ht : 1125899906842624 ≤ t) : foX X t = [] := by
  unfold foX evL byRows
  rw [List.flatMap_eq_nil_iff]
  intro g hg
  obtain ⟨r, -, rfl⟩ := List.mem_map.1 hg
  have : ((reOp t) (jmps X r)).2 = [] := (reR_end (mayJ_rows hX r) ht).2
  simp only [this, List.map_nil]
/-- How many pieces begin, of edges. -/
def begX (X : List Ed) : Int := (X.map fun e => max e.2.2 0).sum
theorem begE_x (L : List Ve) : begE L = begX (eds L) := by unfold begE begX eds; rw [List.map_map]; rfl
theorem begX_grp : ∀ G : List Gp, begX (evL (fun f => (0, f)) G) = (G.map fun g => begJ g.2).sum
  | [] => rfl
  | g :: G => by
    have ih := begX_grp G
    unfold begX evL at ih ⊢
    rw [List.flatMap_cons, List.map_append, List.sum_append, ih, List.map_cons, List.sum_cons]
    congr 1
    unfold begJ
    rw [List.map_map]
    rfl
theorem begT_x {T : List Fe} {X : List Ed} (h : BagX T X) : begT T = begX X := by
  have e : begT T = ((T.map (·.2.2)).map fun g => begJ g.2).sum := by unfold begT; rw [List.map_map]; rfl
  rw [e, perm_sumI (h.2.1.map _), ← begX_grp, grp_back]
theorem tell_len1 (v : Int → Int) : ∀ (ps : List Int) (was : Int), (tell v ps was).length ≤ ps.length
  | [], _ => Nat.le_refl _
  | p :: r, was => by
    have := tell_len1 v r (v p)
    unfold tell
    split
    · rw [List.length_cons]; omega
    · rw [List.length_cons, List.length_cons]; omega
theorem nm_len2 (f : List Jp) : (nmOp f).2.length ≤ f.length := by
  show (nmR f).length ≤ _
  unfold nmR
  split
  · unfold nmL
    have h1 := tell_len1 (jv f) (plc [] (inF f)) 0
    have h2 := plc_length (inF f) [] Asc.nil'
    have h3 : (inF f).length ≤ f.length := List.length_filter_le _ _
    rw [List.length_nil] at h2
    omega
  · simp
theorem neR_len {X l : List Ed} (hX : mayE X = true) (hl : mayE l = true) (h0 : neE (X ++ l) = 0) : (neR (X ++ l)).length ≤ X.length + l.length := by
  have h1 := up_len hX hl
  rw [← (ne_zero h0).2.2] at h1
  have h2 := sum_leI (fun g : Gp => ((addOne X g).2.length : Int) - (jmps X g.1).length) (fun g => (g.2.length : Int)) (grp l) (fun g _ => by
    have := nm_len2 (jmps X g.1 ++ g.2)
    rw [List.length_append] at this
    have e : (addOne X g).2 = (nmOp (jmps X g.1 ++ g.2)).2 := rfl
    rw [e]; omega)
  have h3 := len_rowsI hl
  have e3 : ((grp l).map fun g : Gp => (g.2.length : Int)).sum = ((rowsL l).map fun r => ((jmps l r).length : Int)).sum := by
    rw [grp_eq (mayE_rise hl)]
    unfold byRows
    rw [List.map_map]
    rfl
  rw [e3, ← h3] at h2
  omega
end Go.Proofs.YtobmjcehgpmfgaaGreat
set_option linter.unusedVariables false
set_option linter.unusedSimpArgs false
namespace Go.Proofs.YtobmjcehgpmfgaaGreat
open Go.RowKit Go.Deep Go.ChangeShapes

section
variable {H : Type} {enc : TypeId × Value → H} {P : Program} {w : World} {base fuel : Nat} {held : Bool}
theorem rc_at (l : List Vl) (j : Nat) (u : Value) (h : (rc l)[j]? = some u) : ∃ i a k, l[i]? = some a ∧ j = i * 3 + k ∧ (vc a)[k]? = some u := by
  have hj : j < l.length * 3 := by
    rcases Nat.lt_or_ge j (l.length * 3) with h1 | h1
    · exact h1
    · rw [List.getElem?_eq_none (by rw [rc_length]; exact h1)] at h; cases h
  have hi : j / 3 < l.length := by omega
  refine ⟨j / 3, l[j / 3], j % 3, List.getElem?_eq_getElem hi, by omega, ?_⟩
  have hk : j % 3 = 0 ∨ j % 3 = 1 ∨ j % 3 = 2 := by omega
  obtain ⟨v, hv⟩ : ∃ v, (vc l[j / 3])[j % 3]? = some v := by
    rcases hk with e | e | e <;> rw [e] <;> exact ⟨_, rfl⟩
  have := rc_get l (j / 3) _ (List.getElem?_eq_getElem hi) _ v hv
  rw [show j / 3 * 3 + j % 3 = j by omega, h] at this
  rw [hv, this]
theorem open_row {t e : TypeId} {f0 f1 f2 : Field} {v : Value} {x : DataW H × List MemPlace} (ht : P.underlying t = some (.slice e)) (he : P.underlying e = some (.struct #[f0, f1, f2]))
    (ce : P.cellsOf e = 3) (o0 : f0.offset = 0) (o1 : f1.offset = 1) (o2 : f2.offset = 2) (c0 : P.cellsOf f0.type = 1) (c1 : P.cellsOf f1.type = 1) (c2 : P.cellsOf f2.type = 1)
    (u0 : P.underlying f0.type = some (.int .i64)) (u1 : P.underlying f1.type = some (.int .i64)) (u2 : P.underlying f2.type = some .string)
    (h : DataW.trod enc P w base (fun _ => true) held fuel t [v] = some x) : ∃ l : List Vl, l.length = sliceLen x.1 ∧ Rw w [] v l ∧ ∀ a ∈ l, inI a.2.1 := by
  rcases open_slice ht h with ⟨h1, rfl⟩ | ⟨a, len, cap, m, n, D, Pl, h1, _, hl, hm, hmm, rfl, hel⟩
  · obtain rfl : v = .slice none 0 0 := by simpa using h1
    exact ⟨[], rfl, Sl.nil _ _ _, by simp⟩
  · obtain rfl : v = .slice (some a) len cap := by simpa using h1
    simp only [if_true] at hmm
    have each : ∀ i, i < len → ∃ p : Vl, (∀ k u, (vc p)[k]? = some u → w.cell? ((a.add (i * 3)).add k) = some u) ∧ inI p.2.1 := by
      intro i hi
      obtain ⟨cs, hc, htr⟩ := hel i (by omega)
      rw [ce] at hc
      obtain ⟨_, hlen, hat⟩ := World.cells?_some hc
      obtain ⟨xs, k, _, _, _, hxl, hf⟩ := DataW.trod_struct he htr
      match cs, hlen with
      | [w0, w1, w2], _ =>
        match xs, hxl with
        | [y0, y1, y2], _ =>
          have g0 := hf 0 f0 rfl
          have g1 := hf 1 f1 rfl
          have g2 := hf 2 f2 rfl
          rw [o0, c0] at g0
          rw [o1, c1] at g1
          rw [o2, c2] at g2
          obtain ⟨z0, q0, _, _⟩ := DataW.trod_int u0 g0
          obtain ⟨z1, q1, _, k1⟩ := DataW.trod_int u1 g1
          obtain ⟨z2, q2, _, _⟩ := DataW.trod_string u2 g2
          simp at q0 q1 q2
          subst q0; subst q1; subst q2
          refine ⟨(z0, z1, z2), fun k u hu => ?_, wf_i64 k1⟩
          have hk : k < 3 := by simpa [vc] using (List.getElem?_eq_some_iff.1 hu).1
          rw [hat k hk]
          exact hu
    obtain ⟨p, hp⟩ := choose_lt (α := Vl) (p := fun i p => (∀ k u, (vc p)[k]? = some u → w.cell? ((a.add (i * 3)).add k) = some u) ∧ inI p.2.1) each
    refine ⟨(List.range len).map p, by simp [sliceLen], ⟨some a, cap, by simp, by simpa using hl, hm, by rw [rc_length], ?_⟩, ?_⟩
    · by_cases h0 : len = 0
      · left; subst h0; rfl
      right
      have hz := (hp 0 (by omega)).1 0 _ rfl
      obtain ⟨b, o, rfl⟩ := addr_plain (i := 0) (a := a) (by
        have e0 : (a.add (0 * 3)).add 0 = a.add 0 := by rw [Nat.zero_mul]; exact (show (a.add 0).add 0 = a.add (0 + 0) from Go.Deep.add_add ..)
        rw [e0] at hz; exact hz) rfl
      refine ⟨b, o, rfl, by simp, fun j u hu => ?_⟩
      obtain ⟨i, q, k, hq, rfl, hk⟩ := rc_at _ j u hu
      have hi : i < len := by
        rcases Nat.lt_or_ge i len with h | h
        · exact h
        · rw [List.getElem?_eq_none (by simpa using h)] at hq; cases hq
      have hq' : q = p i := by simpa [hi] using hq.symm
      subst hq'
      have := (hp i hi).1 k u hk
      rw [add_plain, add_plain, Nat.add_assoc] at this
      exact this
    · intro q hq
      simp only [List.mem_map, List.mem_range] at hq
      obtain ⟨i, hi, rfl⟩ := hq
      exact (hp i hi).2
theorem sized_elems {ts : List TypeId} {ds : List (DataW H)} (h : (DataW.weightsEach P ts ds).all (· ≤ reachBytes) = true) {j : Nat} {t e : TypeId} {d : DataW H} {b : Nat} (ht : ts[j]? = some t) (hd : ds[j]? = some d) (hu : P.underlying t = some (.slice e)) (hb : P.bytesOf e = b) :
    sliceLen d * b ≤ 140737488351232 := by
  cases d with
  | slice elems spare =>
    have h1 := sized_slice h ht hd hu
    rw [hb] at h1
    have h2 := Nat.mul_le_mul_right b (Nat.le_add_right elems.length spare.length)
    simp only [sliceLen, reachBytes] at *
    omega
  | _ => simp [sliceLen]
end
end Go.Proofs.YtobmjcehgpmfgaaGreat
set_option linter.unusedVariables false
set_option linter.unusedSimpArgs false
namespace Go.Proofs.YtobmjcehgpmfgaaGreat
open Go.RowKit Go.Deep Go.ChangeShapes

section
variable {H : Type} {enc : TypeId × Value → H} {P : Program} {w : World} {base fuel : Nat} {held : Bool}
theorem ec_at (l : List Ve) (j : Nat) (u : Value) (h : (ec l)[j]? = some u) : ∃ i a k, l[i]? = some a ∧ j = i * 3 + k ∧ (ec1 a)[k]? = some u := by
  have hj : j < l.length * 3 := by
    rcases Nat.lt_or_ge j (l.length * 3) with h1 | h1
    · exact h1
    · rw [List.getElem?_eq_none (by rw [ec_length]; exact h1)] at h; cases h
  have hi : j / 3 < l.length := by omega
  refine ⟨j / 3, l[j / 3], j % 3, List.getElem?_eq_getElem hi, by omega, ?_⟩
  have hk : j % 3 = 0 ∨ j % 3 = 1 ∨ j % 3 = 2 := by omega
  obtain ⟨v, hv⟩ : ∃ v, (ec1 l[j / 3])[j % 3]? = some v := by
    rcases hk with e | e | e <;> rw [e] <;> exact ⟨_, rfl⟩
  have := ec_get l (j / 3) _ (List.getElem?_eq_getElem hi) _ v hv
  rw [show j / 3 * 3 + j % 3 = j by omega, h] at this
  rw [hv, this]
end
end Go.Proofs.YtobmjcehgpmfgaaGreat
set_option linter.unusedVariables false
set_option linter.unusedSimpArgs false
namespace Go.Proofs.YtobmjcehgpmfgaaGreat
open Go.RowKit Go.Deep Go.ChangeShapes

section
variable {H : Type} {enc : TypeId × Value → H} {P : Program} {w : World} {base fuel : Nat} {held : Bool}
theorem open_edgesI {t e r : TypeId} {f0 f1 f2 g0 g1 g2 : Field} {v : Value} {x : DataW H × List MemPlace} (ht : P.underlying t = some (.slice e)) (he : P.underlying e = some (.struct #[f0, f1, f2]))
    (ce : P.cellsOf e = 3) (o0 : f0.offset = 0) (o1 : f1.offset = 1) (o2 : f2.offset = 2) (c0 : P.cellsOf f0.type = 1) (c1 : P.cellsOf f1.type = 1) (c2 : P.cellsOf f2.type = 1)
    (u0 : P.underlying f0.type = some (.slice r)) (u1 : P.underlying f1.type = some (.int .i64)) (u2 : P.underlying f2.type = some (.int .i64))
    (hr : P.underlying r = some (.struct #[g0, g1, g2])) (cr : P.cellsOf r = 3) (p0 : g0.offset = 0) (p1 : g1.offset = 1) (p2 : g2.offset = 2) (d0 : P.cellsOf g0.type = 1) (d1 : P.cellsOf g1.type = 1) (d2 : P.cellsOf g2.type = 1)
    (y0 : P.underlying g0.type = some (.int .i64)) (y1 : P.underlying g1.type = some (.int .i64)) (y2 : P.underlying g2.type = some .string)
    (h : DataW.trod enc P w base (fun _ => true) held fuel t [v] = some x) : ∃ L : List Ve, L.length = sliceLen x.1 ∧ Ew w [] v L ∧ ∀ e ∈ eds L, ∀ y ∈ e.1, inI y.2.1 := by
  rcases open_slice ht h with ⟨h1, rfl⟩ | ⟨a, len, cap, m, n, D, Pl, h1, _, hl, hm, hmm, rfl, hel⟩
  · obtain rfl : v = .slice none 0 0 := by simpa using h1
    exact ⟨[], rfl, ⟨Sl.nil _ _ _, by simp⟩, by simp [eds]⟩
  · obtain rfl : v = .slice (some a) len cap := by simpa using h1
    simp only [if_true] at hmm
    have each : ∀ i, i < len → ∃ p : Ve, (∀ k u, (ec1 p)[k]? = some u → w.cell? ((a.add (i * 3)).add k) = some u) ∧ Rw w [] p.1 p.2.1 ∧ ∀ y ∈ p.2.1, inI y.2.1 := by
      intro i hi
      obtain ⟨cs, hc, htr⟩ := hel i (by omega)
      rw [ce] at hc
      obtain ⟨_, hlen, hat⟩ := World.cells?_some hc
      obtain ⟨xs, k, _, _, _, hxl, hf⟩ := DataW.trod_struct he htr
      match cs, hlen with
      | [w0, w1, w2], _ =>
        match xs, hxl with
        | [z0, z1, z2], _ =>
          have q0 := hf 0 f0 rfl
          have q1 := hf 1 f1 rfl
          have q2 := hf 2 f2 rfl
          rw [o0, c0] at q0
          rw [o1, c1] at q1
          rw [o2, c2] at q2
          obtain ⟨l, _, hrl, hri⟩ := open_row u0 hr cr p0 p1 p2 d0 d1 d2 y0 y1 y2 (show DataW.trod enc P w base (fun _ => true) held k f0.type [w0] = some _ from by simpa using q0)
          obtain ⟨a1, e1, _, _⟩ := DataW.trod_int u1 q1
          obtain ⟨a2, e2, _, _⟩ := DataW.trod_int u2 q2
          simp at e1 e2
          subst e1; subst e2
          refine ⟨(w0, l, (a1, a2)), fun k u hu => ?_, hrl, hri⟩
          have hk : k < 3 := by simpa [ec1] using (List.getElem?_eq_some_iff.1 hu).1
          rw [hat k hk]
          exact hu
    obtain ⟨p, hp⟩ := choose_lt (α := Ve) (p := fun i p => (∀ k u, (ec1 p)[k]? = some u → w.cell? ((a.add (i * 3)).add k) = some u) ∧ Rw w [] p.1 p.2.1 ∧ ∀ y ∈ p.2.1, inI y.2.1) each
    refine ⟨(List.range len).map p, by simp [sliceLen], ⟨⟨some a, cap, by simp, by simpa using hl, hm, by rw [ec_length], ?_⟩, ?_⟩, ?_⟩
    · by_cases h0 : len = 0
      · left; subst h0; rfl
      right
      have hz := (hp 0 (by omega)).1 0 _ rfl
      obtain ⟨b, o, rfl⟩ := addr_plain (i := 0) (a := a) (by
        have e0 : (a.add (0 * 3)).add 0 = a.add 0 := by rw [Nat.zero_mul]; exact (show (a.add 0).add 0 = a.add (0 + 0) from Go.Deep.add_add ..)
        rw [e0] at hz; exact hz) rfl
      refine ⟨b, o, rfl, by simp, fun j u hu => ?_⟩
      obtain ⟨i, q, k, hq, rfl, hk⟩ := ec_at _ j u hu
      have hi : i < len := by
        rcases Nat.lt_or_ge i len with h | h
        · exact h
        · rw [List.getElem?_eq_none (by simpa using h)] at hq; cases hq
      have hq' : q = p i := by simpa [hi] using hq.symm
      subst hq'
      have := (hp i hi).1 k u hk
      rw [add_plain, add_plain, Nat.add_assoc] at this
      exact this
    · intro q hq
      obtain ⟨i, hi, rfl⟩ := List.mem_map.1 hq
      exact (hp i (List.mem_range.1 hi)).2.1
    · intro e he
      simp only [eds, List.map_map, List.mem_map] at he
      obtain ⟨i, hi, rfl⟩ := he
      exact (hp i (List.mem_range.1 hi)).2.2
end
end Go.Proofs.YtobmjcehgpmfgaaGreat
