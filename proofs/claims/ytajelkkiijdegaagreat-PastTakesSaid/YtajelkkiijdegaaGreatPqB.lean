/-
  A helper of ours: no claim of its own. Layer 14 (past), by the document: how many events are known, a new past, a message taken.
-/
import Derived.Test.YtajelkkiijdegaaGreatPqR
import Derived.Test.YtajelkkiijdegaaGreatFolXH
import Derived.Test.YtajelkkiijdegaaGreatPqG
set_option linter.unusedVariables false
set_option linter.unusedSimpArgs false
namespace Go.Proofs.YtajelkkiijdegaaGreat
open Go.RowKit
attribute [local go_sem] GW.cell GW.frozen In.eq_true In.le_true In.ne In.ne' In.ne_add In.ne_add' In.lt_add Upto.le_true Upto.le_add Upto.lt_add
theorem rwo_nil (w : World) : RwO w (.slice none 0 0) [] := World.ownsRow_nil _ _ _ _
theorem docTake_c (base r : Nat) (sv : Value) (S : StD) (ev gv : Value) (L : List Lv) (m : PM) (v : Value) (w : World) (h : Sd w base r sv S ev gv L) (hn : L.length ≤ 100000) (hv : Rw w [] v m.2) (hbs : base ≤ w.heap.size) :
    Calls Tryz.prog 49 #[.pointer (some ⟨r, 1, none⟩), mg m.1.1 m.1.2.1 m.1.2.2.1 m.1.2.2.2 v] w fun e w' => ∃ vc ev' gv' L', e = .returned (.tuple #[chV vc (chg S m), .int .i64 (chkD S m)]) ∧ RwO w' vc (chg S m).2.1 ∧ Sd w' base r sv (stp S m) ev' gv' L' ∧ L'.length ≤ L.length + 1 ∧ Fr (r :: (ob ev ++ ob gv)) w w' := by
  obtain ⟨⟨k, i, f, t⟩, l⟩ := m
  simp only at hv ⊢
  by_cases h0 : chkD S ((k, i, f, t), l) = 0
  · have hm := (chkO_zero h0).1
    have hS : stp S ((k, i, f, t), l) = (tk S ((k, i, f, t), l)).1 := if_pos h0
    have hC : chg S ((k, i, f, t), l) = (tk S ((k, i, f, t), l)).2 := if_pos h0
    rw [hS, hC, h0]
    rcases mchk_kind hm with rfl | rfl | rfl
    · have ht : tk S ((1, i, f, t), l) = ((S.1, S.2 ++ [((i, l), (f, t), false)]), (S.2.length + 1, l, (0, 0), (f, t))) := by unfold tk; rw [if_neg (show ¬ (1 : Int) = 3 by decide), if_pos rfl]
      rw [ht]
      exact (docTake1_c base r sv S ev gv L i f t l v w h hn hv h0 hbs).mono fun e w' ⟨vc, ev', gv', L', he, h1, h2, h3⟩ => ⟨vc, ev', gv', L', he, h1, h2, by
        have e1 := congrArg List.length h2.evs
        have e2 := congrArg List.length h.evs
        simp only [List.length_map, List.length_append, List.length_singleton] at e1 e2
        omega, h3⟩
    · obtain ⟨e, ho, h1, h2, h3⟩ := (chkO_zero h0).2.1 rfl
      cases hk : kn S.1 i 0 S.2 with
      | none => simp only [hk] at ho; cases ho
      | some x =>
        obtain ⟨j, e⟩ := x
        have ht : tk S ((2, i, f, t), l) = ((S.1, S.2.set j (if t = e.2.1.1 then (e.1, e.2.1, true) else (e.1, (e.2.1.1, t), false))), (j + 1, e.1.2, e.2.1, cut e.2.1 t)) := by unfold tk; rw [if_neg (show ¬ (2 : Int) = 3 by decide), if_neg (show ¬ (2 : Int) = 1 by decide)]; simp only [hk]
        rw [ht]
        exact (docTake2_c base r sv S ev gv L i f t l v w h hn hv h0 hbs j e hk).mono fun ee w' ⟨vc, he, h1, L', h2, h3, h4⟩ => ⟨vc, ev, gv, L', he, h1, h2, by omega, h4⟩
    · have ht : tk S ((3, i, f, t), l) = ((f, S.2), zCh) := by unfold tk; rw [if_pos rfl]
      rw [ht]
      exact (docTake3_c base r sv S ev gv L i f t l v w h (by omega) hv h0).mono fun e w' ⟨he, h1, h2⟩ => ⟨.slice none 0 0, ev, gv, L, he, rwo_nil w', h1, by omega, h2.more (fun k _ hk => by simp only [List.mem_singleton] at hk; simp [hk])⟩
  · have hS : stp S ((k, i, f, t), l) = S := if_neg h0
    have hC : chg S ((k, i, f, t), l) = zCh := if_neg h0
    rw [hS, hC]
    exact (docTake0_c base r sv S ev gv L k i f t l v w h (by omega) hv h0).mono fun e w' ⟨he, h1⟩ => ⟨.slice none 0 0, ev, gv, L, he, rwo_nil w', h.ext h1, by omega, Fr.of_ext h1⟩
end Go.Proofs.YtajelkkiijdegaaGreat
set_option linter.unusedVariables false
set_option linter.unusedSimpArgs false
namespace Go.Proofs.YtajelkkiijdegaaGreat
open Go.RowKit
attribute [local go_sem] GW.cell GW.frozen In.eq_true In.le_true In.ne In.ne' In.ne_add In.ne_add' In.lt_add Upto.le_true Upto.le_add Upto.lt_add
set_option maxHeartbeats 8000000 in
set_option maxRecDepth 100000 in
theorem refKnown_c (base r : Nat) (sv : Value) (S : StD) (ev gv : Value) (L : List Lv) (w : World) (h : Sd w base r sv S ev gv L) (hn : L.length ≤ 200000) : Calls Tryz.prog 14 #[.pointer (some ⟨r, 1, none⟩)] w fun e w' => e = .returned (.int .i64 (knwN S.1 S.2 : Int)) ∧ Ext w w' := by
  obtain ⟨A, cap, rfl⟩ := h.own.form
  obtain ⟨A2, cap2, rfl⟩ := own_form h.gone
  have c0 := hide (h.ob.cell 1 rfl)
  have c1 := hide (h.ob.cell 2 rfl)
  have c2 := hide (h.ob.cell 3 rfl)
  have hSL : S.2.length = L.length := by rw [← h.evs, List.length_map]
  replace h := hide h
  go_enter Tryz.func14, Tryz.ntmps14
  go_wp2_with fail
  go_loopg [3, 4] L.length (fun gh nv i wr => ∃ (k : Nat), i = .int .i64 k ∧ k + gh = L.length ∧ nv = .int .i64 (knwN S.1 (S.2.take k) : Int) ∧ Ext w wr)
  case atStart => exact ⟨0, rfl, by omega, rfl, Ext.refl w⟩
  case round =>
    obtain ⟨k, rfl, hk, rfl, hX⟩ := hrel
    have k0 := cell_later hX c0.out
    have k1 := cell_later hX c1.out
    have k2 := cell_later hX c2.out
    have hrl := block_lt_of_cell k0
    haveI : In r wr := ⟨hrl⟩
    by_cases hlt2 : k < L.length
    · have hltI : (k : Int) < L.length := by omega
      obtain ⟨p, hp⟩ : ∃ p, L[k]? = some p := ⟨_, List.getElem?_eq_getElem hlt2⟩
      obtain ⟨g, cap', g2, cap2', PA, pc, e1, e2, hgl, hgl2, e3, q0, q1, q2, q3, q4⟩ := (h.out.ext hX).at hp
      cases e1; cases e2
      haveI : In g wr := ⟨hgl⟩
      haveI : In g2 wr := ⟨hgl2⟩
      have hep : S.2[k]? = some p.2 := by rw [← h.out.evs, List.getElem?_map, hp]; rfl
      have hR2 := hide (knw_take (c := S.1) hep)
      have hNl := knw_le S.1 (S.2.take k)
      rw [List.length_take] at hNl
      obtain ⟨pv, ⟨pi, pr⟩, ⟨p1, p2⟩, pg⟩ := p
      simp only at q0 q1 q2 q3 q4 hR2 e3
      obtain ⟨S1, S2⟩ := S
      simp only at *
      clear hp hep
      generalize knwN S1 (S2.take k) = N at *
      cases pg
      · by_cases hc : S1 < p2
        · have dc : decide (S1 < p2) = true := decide_eq_true hc
          have hb : knwB S1 ((pi, pr), (p1, p2), false) = true := by unfold knwB; simp [hc]
          rw [hb] at hR2
          go_wp2_with fail
          refine wp_region_gw (by kernel_rfl) (by kernel_rfl) ?_
          repeat (go_big_quiet_step (fail))
          refine wpQuiet_nil ?_
          intro g5
          go_wp2_with fail
          go_roundg (L.length - (k + 1))
          case measure => omega
          case rel => exact ⟨k + 1, by go_num, by omega, (by rw [hR2.out]; first | go_num | (simp; done) | (simp; go_num)), hX.trans (by first | exact g5.grown | exact Gn.ext)⟩
        · have dc : decide (S1 < p2) = false := decide_eq_false hc
          have hb : knwB S1 ((pi, pr), (p1, p2), false) = false := by unfold knwB; simp [hc]
          rw [hb] at hR2
          go_wp2_with fail
          refine wp_region_gw (by kernel_rfl) (by kernel_rfl) ?_
          repeat (go_big_quiet_step (fail))
          refine wpQuiet_nil ?_
          intro g5
          go_wp2_with fail
          go_roundg (L.length - (k + 1))
          case measure => omega
          case rel => exact ⟨k + 1, by go_num, by omega, (by rw [hR2.out]; first | go_num | (simp; done) | (simp; go_num)), hX.trans (by first | exact g5.grown | exact Gn.ext)⟩
      · have hb : knwB S1 ((pi, pr), (p1, p2), true) = false := by unfold knwB; simp
        rw [hb] at hR2
        go_wp2_with fail
        refine wp_region_gw (by kernel_rfl) (by kernel_rfl) ?_
        repeat (go_big_quiet_step (fail))
        refine wpQuiet_nil ?_
        intro g5
        go_wp2_with fail
        go_roundg (L.length - (k + 1))
        case measure => omega
        case rel => exact ⟨k + 1, by go_num, by omega, (by rw [hR2.out]; first | go_num | (simp; done) | (simp; go_num)), hX.trans (by first | exact g5.grown | exact Gn.ext)⟩
    · have hke : k = L.length := by omega
      subst hke
      have hge : ¬ (L.length : Int) < L.length := by omega
      rw [List.take_of_length_le (by omega)]
      go_wp2_with fail
      go_returns
      exact ⟨rfl, hX⟩
theorem sd_nil {w : World} {base r : Nat} {sv : Value} (hO : Ob w r 51 [sv, .int .i64 0, .slice none 0 0, .slice none 0 0]) (hb : base ≤ r) : Sd w base r sv (0, []) (.slice none 0 0) (.slice none 0 0) [] := ⟨hO, ⟨World.ownsRow_nil _ _ _ _, by simp⟩, World.ownsRow_nil _ _ _ _, rfl, hb⟩
set_option maxHeartbeats 2000000 in
set_option maxRecDepth 100000 in
theorem docNew_c (base : Nat) (l : List Cl) (v : Value) (w : World) (h : Cw w [] v l) (ha : mayS l = true) (hb : base ≤ w.heap.size) : Calls Tryz.prog 8 #[v] w fun e w' => ∃ r, e = .returned (.tuple #[.pointer (some ⟨r, 0, none⟩), .int .i64 0]) ∧ Sd w' base r v (0, []) (.slice none 0 0) (.slice none 0 0) [] ∧ Ext w w' := by
  have h1 := hide (refMayS_c l v w h)
  rw [ha] at h1
  obtain ⟨A, cap, rfl, -, -, -⟩ := cw_form h
  clear h ha
  go_enter Tryz.func8, Tryz.ntmps8
  go_wp2_with (go_at_call 38; (with_reducible refine seq_gw h1.out ?_); intro g)
  go_returns
  have hs := g.grown.size
  exact ⟨_, rfl, sd_nil (Ob.new _ _ [_, _, _, _]) (Nat.le_trans hb hs), g.grown.trans ((Ext.refl _).alloc _)⟩
set_option maxHeartbeats 2000000 in
set_option maxRecDepth 100000 in
theorem docNew_no (l : List Cl) (v : Value) (w : World) (h : Cw w [] v l) (ha : mayS l = false) : Calls Tryz.prog 8 #[v] w fun e w' => e = .returned (.tuple #[.pointer none, .int .i64 17]) ∧ Ext w w' := by
  have h1 := hide (refMayS_c l v w h)
  rw [ha] at h1
  obtain ⟨A, cap, rfl, -, -, -⟩ := cw_form h
  clear h ha
  go_enter Tryz.func8, Tryz.ntmps8
  go_wp2_with (go_at_call 38; (with_reducible refine seq_gw h1.out ?_); intro g)
  go_returns
  exact ⟨rfl, g.grown⟩
end Go.Proofs.YtajelkkiijdegaaGreat
