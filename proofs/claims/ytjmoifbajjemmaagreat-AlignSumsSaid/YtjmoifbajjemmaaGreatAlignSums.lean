/-
  Layer 16 (align), 16.3: for every script on one input (of which those of up to 60 steps and edges count), what was released and what is held is, added up, what was put in; what is released is ahead of the clock, and not ahead of what the clock was at the release before. No condition.
-/
import Derived.Test.YtjmoifbajjemmaaGreatAlnQ
import Derived.Test.YtjmoifbajjemmaaGreatEdgN
import Derived.WalkKit
import Derived.ProofKit
import Derived.OpenShut
import Derived.ShutString
import Derived.ChangeOld
import Derived.Below
import Derived.Lib.SmallJoins
import Derived.SizedLaws
import Derived.Deep.CondSized
import Derived.JoinedCond
set_option linter.unusedVariables false
set_option linter.unusedSimpArgs false
namespace Go.Proofs.YtjmoifbajjemmaaGreat.alignSums
open Go.ChangeShapes Go.WideShapes Go.ChangeAt Go.RowKit Go.Joins
open Go.ChangeMaps (open_string shut_string)
attribute [local go_sem] GW.cell GW.frozen In.eq_true In.le_true In.ne In.ne' In.ne_add In.ne_add' In.lt_add Upto.le_true Upto.le_add Upto.lt_add
set_option maxHeartbeats 8000000 in
set_option maxRecDepth 100000 in
theorem walk (l : List Op4) (v : Value) (w : World) (h : Oz w v l) : Calls Tryz.prog 4 #[v] w fun e w' => e = .returned (.bool true) ∧ Ext w w' := by
  have hSm := hide (alSmall_c l v w h)
  have hew := hide h.2
  obtain ⟨VA, acap, rfl, hlc, hlm, hat⟩ := oz_form h
  unfold maxLen at hlm
  replace hat := hide hat
  clear h
  by_cases hs : szN l ≤ 60
  · rw [decide_eq_true hs] at hSm
    obtain ⟨hl60, he60⟩ := small_eN hs
    have hN1 := hide (fun w' => (show Calls Tryz.prog 5 #[.int .i64 1] w' _ from alNew_c 1 (by decide) (by decide) w'))
    have hlitE := hide (fun (W : World) => World.ownsRow_lit (base := W.heap.size) (e := 44) (size := 3) W #[] 0 (Nat.le_refl _) (by decide) rfl)
    clear hs
    go_enter Tryz.func4, Tryz.ntmps4
    go_wp2_with (first | (go_at_call 10; (with_reducible refine seq_gw hSm.out ?_); intro g1) | (go_at_call 5; (refine (hN1.out _).mono ?_; rintro ee w1 ⟨a, ia, rfl, ⟨ha1, ha2, hane, hoa, hoi⟩, hx1⟩; have X1 := hide (g1.grown.trans hx1); replace hoa := hide hoa; replace hoi := hide hoi; clear hx1)))
    obtain ⟨B, hB⟩ : ∃ B, B = w1.heap.size := ⟨_, rfl⟩
    have hal := hoa.out.lt
    have hil := hoi.out.lt
    have hg1 := g1.grown.size
    have hz1 := X1.out.size
    obtain ⟨Wd, hWd⟩ : ∃ Wd, Wd = (w1.alloc (.cells #[] 44)).alloc (.cells #[] 44) := ⟨_, rfl⟩
    have hE1d : Ext w1 Wd := by rw [hWd]; exact ((Ext.refl _).alloc _).alloc _
    have hXd := hide (X1.out.trans hE1d)
    have hPG0 := hide (show PG Wd B ia (.slice (some ⟨w1.heap.size, 0, none⟩) 0 0) (.slice (some ⟨w1.heap.size + 1, 0, none⟩) 0 0) [] [] from ⟨by rw [hWd, hB]; exact own_ext (hlitE.out w1) ((Ext.refl _).alloc _), by
      rw [hWd, hB]
      have := hlitE.out (w1.alloc (.cells #[] 44))
      rw [World.size_alloc] at this
      exact own_base this (by omega), (by intro g hg hg2; simp [Value.ownBlock] at hg hg2; omega), (by simp), (by simp)⟩)
    have hAL0 := hide (show AL Wd (ob (.slice (some ⟨w1.heap.size, 0, none⟩) 0 0) ++ (ob (.slice (some ⟨w1.heap.size + 1, 0, none⟩) 0 0) ++ [ia])) a ia [(0, [])] from AL.new (n := 1) (hoa.out.ext hE1d) (hoi.out.ext hE1d) ⟨by simp [ob, Value.ownBlock]; omega, by simp⟩ hane)
    have hiB : ia < B := by omega
    have hwB := hide (show w.heap.size ≤ B by omega)
    have hilow := hide (show ∀ b, b ∈ [ia] → w.heap.size ≤ b by intro b hb; rw [List.mem_singleton.1 hb]; omega)
    have hBd : B ≤ Wd.heap.size := by rw [hB]; exact hE1d.size
    rw [← hWd]
    clear hWd hE1d hoa hoi hal hil hg1 hz1 ha1 ha2 hSm hN1
    replace hane := hide hane
    replace hB := hide hB
    go_loopg [5, 6, 7, 8] l.length (fun gh u5 u6 uw i wr => ∃ (k : Nat) (c was : Int) (held : List Ed) (L5 L6 : List Ve), uw = .int .i64 was ∧ i = .int .i64 k ∧ k + gh = l.length ∧ Hid (PG wr B ia u5 u6 L5 L6) ∧ Hid (AL wr (ob u5 ++ (ob u6 ++ [ia])) a ia [(c, held)]) ∧ Hid (SumI c was held (eds L5) (eds L6) (eN (l.take k))) ∧ Hid (k = l.length → held = []) ∧ Hid (Ext w wr ∧ B ≤ wr.heap.size))
    case atStart => exact ⟨0, 0, 0, [], [], [], rfl, rfl, by omega, hPG0, hAL0, SumI.start, fun _ => rfl, ⟨hXd.out, hBd⟩⟩
    case round =>
      clear hPG0 hAL0 hXd hBd
      obtain ⟨k, c, was, held, L5, L6, rfl, rfl, hk, hPG, hAL, hSI, hKL, hXX⟩ := hrel
      obtain ⟨w0, hw0⟩ : ∃ w0, w0 = wr := ⟨_, rfl⟩
      subst hw0
      have hX := hide hXX.out.1
      have hB0 := hXX.out.2
      obtain ⟨P5, k5, e5⟩ := own_form hPG.out.o5
      subst e5
      obtain ⟨Q6, k6, e6⟩ := own_form hPG.out.o6
      subst e6
      by_cases hkl : k < l.length
      · have hkI : (k : Int) < l.length := by omega
        have dk : decide ((k : Int) < l.length) = true := decide_eq_true hkI
        obtain ⟨x, hx⟩ : ∃ x, l[k]? = some x := ⟨_, List.getElem?_eq_getElem hkl⟩
        obtain ⟨b0, o, rfl, hbl, c0, c1, c2, c3⟩ := hat.out k x hx
        have hep := eN_pre l (k + 1)
        have hes := eN_snoc hx
        have hMw := hide (hew.out x (List.mem_of_getElem? hx))
        have k0 := cell_later hX.out c0
        have k2 := cell_later hX.out c2
        have k3 := cell_later hX.out c3
        have hbr : b0 < w0.heap.size := block_lt_of_cell k0
        haveI : In b0 w0 := ⟨hbr⟩
        obtain ⟨⟨kd, inp, tk⟩, mv, M⟩ := x
        simp only at k0 k2 k3 hMw hes c0 c2 c3
        obtain ⟨MA, mcap, e7⟩ := ew_one hMw.out
        subst e7
        have hMl : (eds M).length = M.length := by simp [eds]
        have hc0 := hide c0
        have hc2 := hide c2
        have hc3 := hide c3
        have hM60 : M.length ≤ 60 := by omega
        have hL5n : L5.length ≤ 60 := by
          have q1 := hSI.out.lp
          rw [show (eds L5).length = L5.length by simp [eds]] at q1
          omega
        have hmore := hide (hSI.out.more (show eN (l.take k) ≤ eN (l.take (k + 1)) by omega))
        have hH9 : held.length ≤ 1000000000 := by have := hSI.out.lg; omega
        have hge5 := hide (fun b (hb : b ∈ ob (.slice P5 L5.length k5) ++ (ob (.slice Q6 L6.length k6) ++ [ia])) => show w.heap.size ≤ b by
          simp only [List.mem_append, List.mem_singleton] at hb
          rcases hb with hb | hb | hb
          · exact Nat.le_trans hwB.out (ob_ge hPG.out.o5 b hb).1
          · exact Nat.le_trans hwB.out (ob_ge hPG.out.o6 b hb).1
          · exact hilow.out b (by rw [hb]; simp))
        have hMS := hide (fun w' (hx' : Ext w w') => ((Ew.newA hMw.out (fun b hb => .inr (hge5.out b hb))).ext hx' : Ew w' (ob (.slice P5 L5.length k5) ++ (ob (.slice Q6 L6.length k6) ++ [ia])) (.slice MA M.length mcap) M))
        clear c0 c1 c2 c3 hat hew hx
        by_cases e0 : kd = 0
        · subst e0
          have hPut := hide (lPut_c _ a ia [(c, held)] 0 (.slice MA M.length mcap) M w0 hAL.out (hMw.out.ext hX.out) (hPG.out.size hAL.out))
          by_cases hE : putE [(c, held)] 0 (eds M) = 0
          · obtain ⟨hpx, hI0⟩ := hSI.out.puts hE
            rw [hE, hpx] at hPut
            have hI4 := hide (show SumI c was (adR held (eds M)) (eds (L5 ++ M)) (eds L6) (eN (l.take (k + 1))) by rw [show eds (L5 ++ M) = eds L5 ++ eds M by simp [eds], hes, ← hMl]; exact hI0)
            have hH9 : (adR held (eds M)).length ≤ 1000000000 := by have := hI4.out.lg; omega
            clear hpx hI0 hE hmore
            skip
            by_cases hlast : k + 1 = l.length
            · have dl : ((k : Int) == (l.length : Int) - 1) = true := by simp; omega
              have hI5 := hide hI4.out.last.2.2
              go_wp2_with (first | (go_at_call 12; (refine hPut.out.mono ?_; rintro ee w3 ⟨rfl, hA3, hF3⟩; replace hA3 := hide hA3; have hP3 := hide (hPG.out.fr hF3 hiB); have X3 := hide (ext_fr hX.out hF3 hilow.out); have m2 := cell_later X3.out hc2.out; have ml := block_lt_of_cell m2; haveI : In b0 w3 := ⟨ml⟩; have hB3 := Nat.le_trans hB0 hF3.size; clear hF3)) | (at_builtin; (refine wpl_app tEdg rfl (.tmp 49) (.tmp 54) rfl rfl hP3.out.o5 rfl (src_sl Tryz.underlying34 (Sl.ext hMw.out.1 X3.out) (Ew.one hMw.out) (by omega)) (by unfold maxLen; omega) (by omega) hB3 ?_; intro v4 w4 ho4 hg4 hv4; obtain ⟨P4, k4, e4⟩ := own_form ho4; subst e4; obtain ⟨hP4, hA4⟩ := hP3.out.app5 hA3.out (hMS.out _ X3.out) hiB ho4 hg4 hv4; have X4 := hide (ext_grown X3.out hg4 (fun z hz => Nat.le_trans hwB.out (hP3.out.o5.lt z hz).1)); replace hP4 := hide hP4; replace hA4 := hide hA4; have hB4 := Nat.le_trans hB3 hg4.size; clear ho4 hg4 hv4; have n0 := cell_later X4.out hc0.out; have n3 := cell_later X4.out hc3.out; have nl := block_lt_of_cell n0; haveI : In b0 w4 := ⟨nl⟩)) | (go_at_call 14; (have hq := lRaise_c _ a ia [(c, (adR held (eds M)))] 0 1125899906842624 w4 hA4.out; rw [hI4.out.last.1, hI4.out.last.2.1] at hq; refine hq.mono ?_; clear hq; rintro ee w5 ⟨rfl, hA5, hF5⟩; replace hA5 := hide hA5; have hP5 := hide (hP4.out.fr hF5 hiB); have X5 := hide (ext_fr X4.out hF5 hilow.out); have hB5 := Nat.le_trans hB4 hF5.size; clear hF5)) | (go_at_call 9; (refine (lRel1_c _ a ia 1125899906842624 (adR held (eds M)) hI5.out.c0.2.2 hH9 w5 hA5.out (hP5.out.size hA5.out)).mono ?_; rintro ee w6 ⟨xb, xo, xc, EA, ecap, l1, rfl, ⟨hl1, x0, hE1⟩, hA6, hF6⟩; replace hA6 := hide hA6; have hP6 := hide (hP5.out.fr hF6 hiB); have X6 := hide (ext_fr X5.out hF6 hilow.out); have hxl := block_lt_of_cell x0; haveI : In xb w6 := ⟨hxl⟩; replace hl1 := hide hl1; replace hE1 := hide hE1; have hB6 := Nat.le_trans hB5 hF6.size; clear hF6)))
              have hl1n : l1.length ≤ 60 := by
                have q1 := hI5.out.lg
                have q2 := congrArg List.length hl1.out
                have q3 := List.length_filter_le (fun e : Ed => ahT 1125899906842624 e.2) (adR held (eds M))
                rw [show (eds l1).length = l1.length by simp [eds]] at q2
                omega
              have hL6n : L6.length ≤ 60 := by
                have q1 := hI5.out.lg
                rw [show (eds L6).length = L6.length by simp [eds]] at q1
                omega
              obtain ⟨A9, c9, qe, hec, hem, hat2⟩ := ew_form hE1.out
              cases qe
              unfold maxLen at hem
              replace hat2 := hide hat2
              have hrl := hide hI5.out.release
              go_loopg [10] l1.length (fun gh j wr => ∃ (q : Nat), j = .int .i64 q ∧ q + gh = l1.length ∧ Ext w6 wr)
              case atStart => exact ⟨0, rfl, by omega, Ext.refl _⟩
              case round =>
                obtain ⟨q, rfl, hq, hXj⟩ := hrel
                obtain ⟨wj, hwj⟩ : ∃ wj, wj = wr := ⟨_, rfl⟩
                subst hwj
                have xj := cell_later hXj x0
                have xjl := block_lt_of_cell xj
                haveI : In xb wj := ⟨xjl⟩
                by_cases hql : q < l1.length
                · have hqI : (q : Int) < l1.length := by omega
                  have dq : decide ((q : Int) < l1.length) = true := decide_eq_true hqI
                  obtain ⟨y, hy⟩ : ∃ y, l1[q]? = some y := ⟨_, List.getElem?_eq_getElem hql⟩
                  obtain ⟨eb, eo, rfl, -, -, -, y1, -⟩ := hat2.out q y hy
                  have z1 := cell_later hXj y1
                  have z1l := block_lt_of_cell z1
                  haveI : In eb wj := ⟨z1l⟩
                  have hby := hrl.out.2 y.2 (by rw [← hl1.out]; exact List.mem_map.2 ⟨y, List.mem_of_getElem? hy, rfl⟩)
                  obtain ⟨yv, yq, ya, yn⟩ := y
                  simp only at z1 hby
                  have dw : decide (ya < was) = false := decide_eq_false (by omega)
                  have dc : decide (1125899906842624 ≤ ya) = false := decide_eq_false (by omega)
                  have hqc := hide (fun w' (hx : Ext wj w') => lClock_c _ a ia [(1125899906842624, (((adR held (eds M))).filter fun e => !ahT 1125899906842624 e.2))] (by simp) w' (hA6.out.ext (hXj.trans hx)))
                  rw [clk_one hI5.out.c0.2.2] at hqc
                  clear hy y1 hat2 hby
                  go_wp2_with fail
                  refine wp_region_gw (by kernel_rfl) (by kernel_rfl) ?_
                  repeat (go_big_quiet_step ((go_at_call 7; with_reducible exact quiet_gw (hqc.out _ (GW.grown _)))))
                  refine wpQuiet_nil ?_
                  intro g
                  go_wp2_with fail
                  go_roundg (l1.length - (q + 1))
                  case measure => omega
                  case rel => exact ⟨q + 1, by go_num, by omega, hXj.trans g.grown⟩
                · have hqI : (l1.length : Int) ≤ q := by omega
                  have dq : decide ((q : Int) < l1.length) = false := decide_eq_false (by omega)
                  clear hat2
                  go_wp2_with (first | (at_builtin; (refine wpl_app tEdg rfl (.tmp 134) (.tmp 137) rfl rfl (own_ext hP6.out.o6 hXj) rfl (src_sl Tryz.underlying34 (Sl.ext hE1.out.1 hXj) (Ew.one hE1.out) (by omega)) (by unfold maxLen; omega) (by omega) (Nat.le_trans hB6 hXj.size) ?_; intro v7 w7 ho7 hg7 hv7; obtain ⟨P7, k7, e7⟩ := own_form ho7; subst e7; obtain ⟨hP7, hA7⟩ := (hP6.out.ext hXj).app6 (hA6.out.ext hXj) (hE1.out.ext hXj) hiB ho7 hg7 hv7; have X7 := hide (ext_grown (X6.out.trans hXj) hg7 (fun z hz => Nat.le_trans hwB.out (hP6.out.o6.lt z hz).1)); replace hP7 := hide hP7; replace hA7 := hide hA7; have hB7 := Nat.le_trans (Nat.le_trans hB6 hXj.size) hg7.size; clear ho7 hg7 hv7)) | (go_at_call 7; (have hq8 := lClock_c _ a ia [(1125899906842624, (((adR held (eds M))).filter fun e => !ahT 1125899906842624 e.2))] (by simp) w7 hA7.out; rw [clk_one hI5.out.c0.2.2] at hq8; (with_reducible refine seq_gw hq8 ?_); intro g8; clear hq8)))
                  go_roundg (l.length - (k + 1))
                  case measure => omega
                  case rel => exact ⟨k + 1, 1125899906842624, 1125899906842624, (((adR held (eds M))).filter fun e => !ahT 1125899906842624 e.2), (L5 ++ M), L6 ++ l1, rfl, by go_num, by omega, hP7.out.ext g8.grown, hA7.out.ext g8.grown, (by have h9 := hrl.out.1; rw [← hl1.out] at h9; show SumI _ _ _ _ _ _; rw [show eds (L6 ++ l1) = eds L6 ++ eds l1 by simp [eds]]; exact h9), (fun hk9 => hI5.out.none), ⟨X7.out.trans g8.grown, Nat.le_trans hB7 g8.grown.size⟩⟩
            · have dl : ((k : Int) == (l.length : Int) - 1) = false := by simp; omega
              go_wp2_with (first | (go_at_call 12; (refine hPut.out.mono ?_; rintro ee w3 ⟨rfl, hA3, hF3⟩; replace hA3 := hide hA3; have hP3 := hide (hPG.out.fr hF3 hiB); have X3 := hide (ext_fr hX.out hF3 hilow.out); have m2 := cell_later X3.out hc2.out; have ml := block_lt_of_cell m2; haveI : In b0 w3 := ⟨ml⟩; have hB3 := Nat.le_trans hB0 hF3.size; clear hF3)) | (at_builtin; (refine wpl_app tEdg rfl (.tmp 49) (.tmp 54) rfl rfl hP3.out.o5 rfl (src_sl Tryz.underlying34 (Sl.ext hMw.out.1 X3.out) (Ew.one hMw.out) (by omega)) (by unfold maxLen; omega) (by omega) hB3 ?_; intro v4 w4 ho4 hg4 hv4; obtain ⟨P4, k4, e4⟩ := own_form ho4; subst e4; obtain ⟨hP4, hA4⟩ := hP3.out.app5 hA3.out (hMS.out _ X3.out) hiB ho4 hg4 hv4; have X4 := hide (ext_grown X3.out hg4 (fun z hz => Nat.le_trans hwB.out (hP3.out.o5.lt z hz).1)); replace hP4 := hide hP4; replace hA4 := hide hA4; have hB4 := Nat.le_trans hB3 hg4.size; clear ho4 hg4 hv4; have n0 := cell_later X4.out hc0.out; have n3 := cell_later X4.out hc3.out; have nl := block_lt_of_cell n0; haveI : In b0 w4 := ⟨nl⟩)))
              go_roundg (l.length - (k + 1))
              case measure => omega
              case rel => exact ⟨k + 1, c, was, (adR held (eds M)), (L5 ++ M), L6, rfl, by go_num, by omega, hP4, hA4, hI4, (fun hk9 => by omega), ⟨X4.out, hB4⟩⟩
          · have bE : (putE [(c, held)] 0 (eds M) == 0) = false := by simp [hE]
            rw [show putX [(c, held)] 0 (eds M) = [(c, held)] by unfold putX; rw [if_neg hE]] at hPut
            have hI4 := hmore
            generalize putE [(c, held)] 0 (eds M) = E at *
            replace hE := hide hE
            skip
            by_cases hlast : k + 1 = l.length
            · have dl : ((k : Int) == (l.length : Int) - 1) = true := by simp; omega
              have hI5 := hide hI4.out.last.2.2
              go_wp2_with (first | (go_at_call 12; (refine hPut.out.mono ?_; rintro ee w4 ⟨rfl, hA4, hF3⟩; replace hA4 := hide hA4; have hP4 := hide (hPG.out.fr hF3 hiB); have X4 := hide (ext_fr hX.out hF3 hilow.out); have hB4 := Nat.le_trans hB0 hF3.size; clear hF3; have n0 := cell_later X4.out hc0.out; have n3 := cell_later X4.out hc3.out; have nl := block_lt_of_cell n0; haveI : In b0 w4 := ⟨nl⟩)) | (go_at_call 14; (have hq := lRaise_c _ a ia [(c, held)] 0 1125899906842624 w4 hA4.out; rw [hI4.out.last.1, hI4.out.last.2.1] at hq; refine hq.mono ?_; clear hq; rintro ee w5 ⟨rfl, hA5, hF5⟩; replace hA5 := hide hA5; have hP5 := hide (hP4.out.fr hF5 hiB); have X5 := hide (ext_fr X4.out hF5 hilow.out); have hB5 := Nat.le_trans hB4 hF5.size; clear hF5)) | (go_at_call 9; (refine (lRel1_c _ a ia 1125899906842624 held hI5.out.c0.2.2 hH9 w5 hA5.out (hP5.out.size hA5.out)).mono ?_; rintro ee w6 ⟨xb, xo, xc, EA, ecap, l1, rfl, ⟨hl1, x0, hE1⟩, hA6, hF6⟩; replace hA6 := hide hA6; have hP6 := hide (hP5.out.fr hF6 hiB); have X6 := hide (ext_fr X5.out hF6 hilow.out); have hxl := block_lt_of_cell x0; haveI : In xb w6 := ⟨hxl⟩; replace hl1 := hide hl1; replace hE1 := hide hE1; have hB6 := Nat.le_trans hB5 hF6.size; clear hF6)))
              have hl1n : l1.length ≤ 60 := by
                have q1 := hI5.out.lg
                have q2 := congrArg List.length hl1.out
                have q3 := List.length_filter_le (fun e : Ed => ahT 1125899906842624 e.2) held
                rw [show (eds l1).length = l1.length by simp [eds]] at q2
                omega
              have hL6n : L6.length ≤ 60 := by
                have q1 := hI5.out.lg
                rw [show (eds L6).length = L6.length by simp [eds]] at q1
                omega
              obtain ⟨A9, c9, qe, hec, hem, hat2⟩ := ew_form hE1.out
              cases qe
              unfold maxLen at hem
              replace hat2 := hide hat2
              have hrl := hide hI5.out.release
              go_loopg [10] l1.length (fun gh j wr => ∃ (q : Nat), j = .int .i64 q ∧ q + gh = l1.length ∧ Ext w6 wr)
              case atStart => exact ⟨0, rfl, by omega, Ext.refl _⟩
              case round =>
                obtain ⟨q, rfl, hq, hXj⟩ := hrel
                obtain ⟨wj, hwj⟩ : ∃ wj, wj = wr := ⟨_, rfl⟩
                subst hwj
                have xj := cell_later hXj x0
                have xjl := block_lt_of_cell xj
                haveI : In xb wj := ⟨xjl⟩
                by_cases hql : q < l1.length
                · have hqI : (q : Int) < l1.length := by omega
                  have dq : decide ((q : Int) < l1.length) = true := decide_eq_true hqI
                  obtain ⟨y, hy⟩ : ∃ y, l1[q]? = some y := ⟨_, List.getElem?_eq_getElem hql⟩
                  obtain ⟨eb, eo, rfl, -, -, -, y1, -⟩ := hat2.out q y hy
                  have z1 := cell_later hXj y1
                  have z1l := block_lt_of_cell z1
                  haveI : In eb wj := ⟨z1l⟩
                  have hby := hrl.out.2 y.2 (by rw [← hl1.out]; exact List.mem_map.2 ⟨y, List.mem_of_getElem? hy, rfl⟩)
                  obtain ⟨yv, yq, ya, yn⟩ := y
                  simp only at z1 hby
                  have dw : decide (ya < was) = false := decide_eq_false (by omega)
                  have dc : decide (1125899906842624 ≤ ya) = false := decide_eq_false (by omega)
                  have hqc := hide (fun w' (hx : Ext wj w') => lClock_c _ a ia [(1125899906842624, ((held).filter fun e => !ahT 1125899906842624 e.2))] (by simp) w' (hA6.out.ext (hXj.trans hx)))
                  rw [clk_one hI5.out.c0.2.2] at hqc
                  clear hy y1 hat2 hby
                  go_wp2_with fail
                  refine wp_region_gw (by kernel_rfl) (by kernel_rfl) ?_
                  repeat (go_big_quiet_step ((go_at_call 7; with_reducible exact quiet_gw (hqc.out _ (GW.grown _)))))
                  refine wpQuiet_nil ?_
                  intro g
                  go_wp2_with fail
                  go_roundg (l1.length - (q + 1))
                  case measure => omega
                  case rel => exact ⟨q + 1, by go_num, by omega, hXj.trans g.grown⟩
                · have hqI : (l1.length : Int) ≤ q := by omega
                  have dq : decide ((q : Int) < l1.length) = false := decide_eq_false (by omega)
                  clear hat2
                  go_wp2_with (first | (at_builtin; (refine wpl_app tEdg rfl (.tmp 134) (.tmp 137) rfl rfl (own_ext hP6.out.o6 hXj) rfl (src_sl Tryz.underlying34 (Sl.ext hE1.out.1 hXj) (Ew.one hE1.out) (by omega)) (by unfold maxLen; omega) (by omega) (Nat.le_trans hB6 hXj.size) ?_; intro v7 w7 ho7 hg7 hv7; obtain ⟨P7, k7, e7⟩ := own_form ho7; subst e7; obtain ⟨hP7, hA7⟩ := (hP6.out.ext hXj).app6 (hA6.out.ext hXj) (hE1.out.ext hXj) hiB ho7 hg7 hv7; have X7 := hide (ext_grown (X6.out.trans hXj) hg7 (fun z hz => Nat.le_trans hwB.out (hP6.out.o6.lt z hz).1)); replace hP7 := hide hP7; replace hA7 := hide hA7; have hB7 := Nat.le_trans (Nat.le_trans hB6 hXj.size) hg7.size; clear ho7 hg7 hv7)) | (go_at_call 7; (have hq8 := lClock_c _ a ia [(1125899906842624, ((held).filter fun e => !ahT 1125899906842624 e.2))] (by simp) w7 hA7.out; rw [clk_one hI5.out.c0.2.2] at hq8; (with_reducible refine seq_gw hq8 ?_); intro g8; clear hq8)))
                  go_roundg (l.length - (k + 1))
                  case measure => omega
                  case rel => exact ⟨k + 1, 1125899906842624, 1125899906842624, ((held).filter fun e => !ahT 1125899906842624 e.2), L5, L6 ++ l1, rfl, by go_num, by omega, hP7.out.ext g8.grown, hA7.out.ext g8.grown, (by have h9 := hrl.out.1; rw [← hl1.out] at h9; show SumI _ _ _ _ _ _; rw [show eds (L6 ++ l1) = eds L6 ++ eds l1 by simp [eds]]; exact h9), (fun hk9 => hI5.out.none), ⟨X7.out.trans g8.grown, Nat.le_trans hB7 g8.grown.size⟩⟩
            · have dl : ((k : Int) == (l.length : Int) - 1) = false := by simp; omega
              go_wp2_with (first | (go_at_call 12; (refine hPut.out.mono ?_; rintro ee w4 ⟨rfl, hA4, hF3⟩; replace hA4 := hide hA4; have hP4 := hide (hPG.out.fr hF3 hiB); have X4 := hide (ext_fr hX.out hF3 hilow.out); have hB4 := Nat.le_trans hB0 hF3.size; clear hF3; have n0 := cell_later X4.out hc0.out; have n3 := cell_later X4.out hc3.out; have nl := block_lt_of_cell n0; haveI : In b0 w4 := ⟨nl⟩)))
              go_roundg (l.length - (k + 1))
              case measure => omega
              case rel => exact ⟨k + 1, c, was, held, L5, L6, rfl, by go_num, by omega, hP4, hA4, hI4, (fun hk9 => by omega), ⟨X4.out, hB4⟩⟩
        by_cases e1 : kd = 1
        · subst e1
          have hRai := hide (lRaise_c _ a ia [(c, held)] 0 tk w0 hAL.out)
          obtain ⟨c4, hrx, hI4⟩ := hmore.out.raise tk
          rw [hrx] at hRai
          generalize raiE [(c, held)] 0 tk = E at *
          replace hI4 := hide hI4
          clear hrx
          skip
          by_cases hlast : k + 1 = l.length
          · have dl : ((k : Int) == (l.length : Int) - 1) = true := by simp; omega
            have hI5 := hide hI4.out.last.2.2
            go_wp2_with (first | (go_at_call 14; ((with_reducible refine hRai.out.mono ?_); rintro ee w4 ⟨rfl, hA4, hF3⟩; replace hA4 := hide hA4; have hP4 := hide (hPG.out.fr hF3 hiB); have X4 := hide (ext_fr hX.out hF3 hilow.out); have hB4 := Nat.le_trans hB0 hF3.size; clear hF3; have n0 := cell_later X4.out hc0.out; have n3 := cell_later X4.out hc3.out; have nl := block_lt_of_cell n0; haveI : In b0 w4 := ⟨nl⟩)) | (go_at_call 14; (have hq := lRaise_c _ a ia [(c4, held)] 0 1125899906842624 w4 hA4.out; rw [hI4.out.last.1, hI4.out.last.2.1] at hq; refine hq.mono ?_; clear hq; rintro ee w5 ⟨rfl, hA5, hF5⟩; replace hA5 := hide hA5; have hP5 := hide (hP4.out.fr hF5 hiB); have X5 := hide (ext_fr X4.out hF5 hilow.out); have hB5 := Nat.le_trans hB4 hF5.size; clear hF5)) | (go_at_call 9; (refine (lRel1_c _ a ia 1125899906842624 held hI5.out.c0.2.2 hH9 w5 hA5.out (hP5.out.size hA5.out)).mono ?_; rintro ee w6 ⟨xb, xo, xc, EA, ecap, l1, rfl, ⟨hl1, x0, hE1⟩, hA6, hF6⟩; replace hA6 := hide hA6; have hP6 := hide (hP5.out.fr hF6 hiB); have X6 := hide (ext_fr X5.out hF6 hilow.out); have hxl := block_lt_of_cell x0; haveI : In xb w6 := ⟨hxl⟩; replace hl1 := hide hl1; replace hE1 := hide hE1; have hB6 := Nat.le_trans hB5 hF6.size; clear hF6)))
            have hl1n : l1.length ≤ 60 := by
              have q1 := hI5.out.lg
              have q2 := congrArg List.length hl1.out
              have q3 := List.length_filter_le (fun e : Ed => ahT 1125899906842624 e.2) held
              rw [show (eds l1).length = l1.length by simp [eds]] at q2
              omega
            have hL6n : L6.length ≤ 60 := by
              have q1 := hI5.out.lg
              rw [show (eds L6).length = L6.length by simp [eds]] at q1
              omega
            obtain ⟨A9, c9, qe, hec, hem, hat2⟩ := ew_form hE1.out
            cases qe
            unfold maxLen at hem
            replace hat2 := hide hat2
            have hrl := hide hI5.out.release
            go_loopg [10] l1.length (fun gh j wr => ∃ (q : Nat), j = .int .i64 q ∧ q + gh = l1.length ∧ Ext w6 wr)
            case atStart => exact ⟨0, rfl, by omega, Ext.refl _⟩
            case round =>
              obtain ⟨q, rfl, hq, hXj⟩ := hrel
              obtain ⟨wj, hwj⟩ : ∃ wj, wj = wr := ⟨_, rfl⟩
              subst hwj
              have xj := cell_later hXj x0
              have xjl := block_lt_of_cell xj
              haveI : In xb wj := ⟨xjl⟩
              by_cases hql : q < l1.length
              · have hqI : (q : Int) < l1.length := by omega
                have dq : decide ((q : Int) < l1.length) = true := decide_eq_true hqI
                obtain ⟨y, hy⟩ : ∃ y, l1[q]? = some y := ⟨_, List.getElem?_eq_getElem hql⟩
                obtain ⟨eb, eo, rfl, -, -, -, y1, -⟩ := hat2.out q y hy
                have z1 := cell_later hXj y1
                have z1l := block_lt_of_cell z1
                haveI : In eb wj := ⟨z1l⟩
                have hby := hrl.out.2 y.2 (by rw [← hl1.out]; exact List.mem_map.2 ⟨y, List.mem_of_getElem? hy, rfl⟩)
                obtain ⟨yv, yq, ya, yn⟩ := y
                simp only at z1 hby
                have dw : decide (ya < was) = false := decide_eq_false (by omega)
                have dc : decide (1125899906842624 ≤ ya) = false := decide_eq_false (by omega)
                have hqc := hide (fun w' (hx : Ext wj w') => lClock_c _ a ia [(1125899906842624, ((held).filter fun e => !ahT 1125899906842624 e.2))] (by simp) w' (hA6.out.ext (hXj.trans hx)))
                rw [clk_one hI5.out.c0.2.2] at hqc
                clear hy y1 hat2 hby
                go_wp2_with fail
                refine wp_region_gw (by kernel_rfl) (by kernel_rfl) ?_
                repeat (go_big_quiet_step ((go_at_call 7; with_reducible exact quiet_gw (hqc.out _ (GW.grown _)))))
                refine wpQuiet_nil ?_
                intro g
                go_wp2_with fail
                go_roundg (l1.length - (q + 1))
                case measure => omega
                case rel => exact ⟨q + 1, by go_num, by omega, hXj.trans g.grown⟩
              · have hqI : (l1.length : Int) ≤ q := by omega
                have dq : decide ((q : Int) < l1.length) = false := decide_eq_false (by omega)
                clear hat2
                go_wp2_with (first | (at_builtin; (refine wpl_app tEdg rfl (.tmp 134) (.tmp 137) rfl rfl (own_ext hP6.out.o6 hXj) rfl (src_sl Tryz.underlying34 (Sl.ext hE1.out.1 hXj) (Ew.one hE1.out) (by omega)) (by unfold maxLen; omega) (by omega) (Nat.le_trans hB6 hXj.size) ?_; intro v7 w7 ho7 hg7 hv7; obtain ⟨P7, k7, e7⟩ := own_form ho7; subst e7; obtain ⟨hP7, hA7⟩ := (hP6.out.ext hXj).app6 (hA6.out.ext hXj) (hE1.out.ext hXj) hiB ho7 hg7 hv7; have X7 := hide (ext_grown (X6.out.trans hXj) hg7 (fun z hz => Nat.le_trans hwB.out (hP6.out.o6.lt z hz).1)); replace hP7 := hide hP7; replace hA7 := hide hA7; have hB7 := Nat.le_trans (Nat.le_trans hB6 hXj.size) hg7.size; clear ho7 hg7 hv7)) | (go_at_call 7; (have hq8 := lClock_c _ a ia [(1125899906842624, ((held).filter fun e => !ahT 1125899906842624 e.2))] (by simp) w7 hA7.out; rw [clk_one hI5.out.c0.2.2] at hq8; (with_reducible refine seq_gw hq8 ?_); intro g8; clear hq8)))
                go_roundg (l.length - (k + 1))
                case measure => omega
                case rel => exact ⟨k + 1, 1125899906842624, 1125899906842624, ((held).filter fun e => !ahT 1125899906842624 e.2), L5, L6 ++ l1, rfl, by go_num, by omega, hP7.out.ext g8.grown, hA7.out.ext g8.grown, (by have h9 := hrl.out.1; rw [← hl1.out] at h9; show SumI _ _ _ _ _ _; rw [show eds (L6 ++ l1) = eds L6 ++ eds l1 by simp [eds]]; exact h9), (fun hk9 => hI5.out.none), ⟨X7.out.trans g8.grown, Nat.le_trans hB7 g8.grown.size⟩⟩
          · have dl : ((k : Int) == (l.length : Int) - 1) = false := by simp; omega
            go_wp2_with (first | (go_at_call 14; ((with_reducible refine hRai.out.mono ?_); rintro ee w4 ⟨rfl, hA4, hF3⟩; replace hA4 := hide hA4; have hP4 := hide (hPG.out.fr hF3 hiB); have X4 := hide (ext_fr hX.out hF3 hilow.out); have hB4 := Nat.le_trans hB0 hF3.size; clear hF3; have n0 := cell_later X4.out hc0.out; have n3 := cell_later X4.out hc3.out; have nl := block_lt_of_cell n0; haveI : In b0 w4 := ⟨nl⟩)))
            go_roundg (l.length - (k + 1))
            case measure => omega
            case rel => exact ⟨k + 1, c4, was, held, L5, L6, rfl, by go_num, by omega, hP4, hA4, hI4, (fun hk9 => by omega), ⟨X4.out, hB4⟩⟩
        · have b0f : (kd == 0) = false := by simp [e0]
          have b1f : (kd == 1) = false := by simp [e1]
          have b0g : (kd != 0) = true := by simp [e0]
          have b1g : (kd != 1) = true := by simp [e1]
          replace e0 := hide e0
          replace e1 := hide e1
          obtain ⟨w4, hw4⟩ : ∃ w4, w4 = w0 := ⟨_, rfl⟩
          rw [← hw4] at hPG hAL hX k0 k2 k3 hbr hB0 ⊢
          haveI : In b0 w4 := ⟨hbr⟩
          have hA4 := hAL
          have hP4 := hPG
          have X4 := hX
          have hB4 := hB0
          have hI4 := hmore
          clear hXX hw4
          skip
          by_cases hlast : k + 1 = l.length
          · have dl : ((k : Int) == (l.length : Int) - 1) = true := by simp; omega
            have hI5 := hide hI4.out.last.2.2
            go_wp2_with (first | (go_at_call 14; (have hq := lRaise_c _ a ia [(c, held)] 0 1125899906842624 w4 hA4.out; rw [hI4.out.last.1, hI4.out.last.2.1] at hq; refine hq.mono ?_; clear hq; rintro ee w5 ⟨rfl, hA5, hF5⟩; replace hA5 := hide hA5; have hP5 := hide (hP4.out.fr hF5 hiB); have X5 := hide (ext_fr X4.out hF5 hilow.out); have hB5 := Nat.le_trans hB4 hF5.size; clear hF5)) | (go_at_call 9; (refine (lRel1_c _ a ia 1125899906842624 held hI5.out.c0.2.2 hH9 w5 hA5.out (hP5.out.size hA5.out)).mono ?_; rintro ee w6 ⟨xb, xo, xc, EA, ecap, l1, rfl, ⟨hl1, x0, hE1⟩, hA6, hF6⟩; replace hA6 := hide hA6; have hP6 := hide (hP5.out.fr hF6 hiB); have X6 := hide (ext_fr X5.out hF6 hilow.out); have hxl := block_lt_of_cell x0; haveI : In xb w6 := ⟨hxl⟩; replace hl1 := hide hl1; replace hE1 := hide hE1; have hB6 := Nat.le_trans hB5 hF6.size; clear hF6)))
            have hl1n : l1.length ≤ 60 := by
              have q1 := hI5.out.lg
              have q2 := congrArg List.length hl1.out
              have q3 := List.length_filter_le (fun e : Ed => ahT 1125899906842624 e.2) held
              rw [show (eds l1).length = l1.length by simp [eds]] at q2
              omega
            have hL6n : L6.length ≤ 60 := by
              have q1 := hI5.out.lg
              rw [show (eds L6).length = L6.length by simp [eds]] at q1
              omega
            obtain ⟨A9, c9, qe, hec, hem, hat2⟩ := ew_form hE1.out
            cases qe
            unfold maxLen at hem
            replace hat2 := hide hat2
            have hrl := hide hI5.out.release
            go_loopg [10] l1.length (fun gh j wr => ∃ (q : Nat), j = .int .i64 q ∧ q + gh = l1.length ∧ Ext w6 wr)
            case atStart => exact ⟨0, rfl, by omega, Ext.refl _⟩
            case round =>
              obtain ⟨q, rfl, hq, hXj⟩ := hrel
              obtain ⟨wj, hwj⟩ : ∃ wj, wj = wr := ⟨_, rfl⟩
              subst hwj
              have xj := cell_later hXj x0
              have xjl := block_lt_of_cell xj
              haveI : In xb wj := ⟨xjl⟩
              by_cases hql : q < l1.length
              · have hqI : (q : Int) < l1.length := by omega
                have dq : decide ((q : Int) < l1.length) = true := decide_eq_true hqI
                obtain ⟨y, hy⟩ : ∃ y, l1[q]? = some y := ⟨_, List.getElem?_eq_getElem hql⟩
                obtain ⟨eb, eo, rfl, -, -, -, y1, -⟩ := hat2.out q y hy
                have z1 := cell_later hXj y1
                have z1l := block_lt_of_cell z1
                haveI : In eb wj := ⟨z1l⟩
                have hby := hrl.out.2 y.2 (by rw [← hl1.out]; exact List.mem_map.2 ⟨y, List.mem_of_getElem? hy, rfl⟩)
                obtain ⟨yv, yq, ya, yn⟩ := y
                simp only at z1 hby
                have dw : decide (ya < was) = false := decide_eq_false (by omega)
                have dc : decide (1125899906842624 ≤ ya) = false := decide_eq_false (by omega)
                have hqc := hide (fun w' (hx : Ext wj w') => lClock_c _ a ia [(1125899906842624, ((held).filter fun e => !ahT 1125899906842624 e.2))] (by simp) w' (hA6.out.ext (hXj.trans hx)))
                rw [clk_one hI5.out.c0.2.2] at hqc
                clear hy y1 hat2 hby
                go_wp2_with fail
                refine wp_region_gw (by kernel_rfl) (by kernel_rfl) ?_
                repeat (go_big_quiet_step ((go_at_call 7; with_reducible exact quiet_gw (hqc.out _ (GW.grown _)))))
                refine wpQuiet_nil ?_
                intro g
                go_wp2_with fail
                go_roundg (l1.length - (q + 1))
                case measure => omega
                case rel => exact ⟨q + 1, by go_num, by omega, hXj.trans g.grown⟩
              · have hqI : (l1.length : Int) ≤ q := by omega
                have dq : decide ((q : Int) < l1.length) = false := decide_eq_false (by omega)
                clear hat2
                go_wp2_with (first | (at_builtin; (refine wpl_app tEdg rfl (.tmp 134) (.tmp 137) rfl rfl (own_ext hP6.out.o6 hXj) rfl (src_sl Tryz.underlying34 (Sl.ext hE1.out.1 hXj) (Ew.one hE1.out) (by omega)) (by unfold maxLen; omega) (by omega) (Nat.le_trans hB6 hXj.size) ?_; intro v7 w7 ho7 hg7 hv7; obtain ⟨P7, k7, e7⟩ := own_form ho7; subst e7; obtain ⟨hP7, hA7⟩ := (hP6.out.ext hXj).app6 (hA6.out.ext hXj) (hE1.out.ext hXj) hiB ho7 hg7 hv7; have X7 := hide (ext_grown (X6.out.trans hXj) hg7 (fun z hz => Nat.le_trans hwB.out (hP6.out.o6.lt z hz).1)); replace hP7 := hide hP7; replace hA7 := hide hA7; have hB7 := Nat.le_trans (Nat.le_trans hB6 hXj.size) hg7.size; clear ho7 hg7 hv7)) | (go_at_call 7; (have hq8 := lClock_c _ a ia [(1125899906842624, ((held).filter fun e => !ahT 1125899906842624 e.2))] (by simp) w7 hA7.out; rw [clk_one hI5.out.c0.2.2] at hq8; (with_reducible refine seq_gw hq8 ?_); intro g8; clear hq8)))
                go_roundg (l.length - (k + 1))
                case measure => omega
                case rel => exact ⟨k + 1, 1125899906842624, 1125899906842624, ((held).filter fun e => !ahT 1125899906842624 e.2), L5, L6 ++ l1, rfl, by go_num, by omega, hP7.out.ext g8.grown, hA7.out.ext g8.grown, (by have h9 := hrl.out.1; rw [← hl1.out] at h9; show SumI _ _ _ _ _ _; rw [show eds (L6 ++ l1) = eds L6 ++ eds l1 by simp [eds]]; exact h9), (fun hk9 => hI5.out.none), ⟨X7.out.trans g8.grown, Nat.le_trans hB7 g8.grown.size⟩⟩
          · have dl : ((k : Int) == (l.length : Int) - 1) = false := by simp; omega
            have hI5 := hI4
            have hA5 := hA4
            have hP5 := hP4
            have X5 := X4
            have hB5 := hB4
            go_wp2_with (first | (go_at_call 9; (refine (lRel1_c _ a ia c held hI5.out.c0.2.2 hH9 w4 hA5.out (hP5.out.size hA5.out)).mono ?_; rintro ee w6 ⟨xb, xo, xc, EA, ecap, l1, rfl, ⟨hl1, x0, hE1⟩, hA6, hF6⟩; replace hA6 := hide hA6; have hP6 := hide (hP5.out.fr hF6 hiB); have X6 := hide (ext_fr X5.out hF6 hilow.out); have hxl := block_lt_of_cell x0; haveI : In xb w6 := ⟨hxl⟩; replace hl1 := hide hl1; replace hE1 := hide hE1; have hB6 := Nat.le_trans hB5 hF6.size; clear hF6)))
            have hl1n : l1.length ≤ 60 := by
              have q1 := hI5.out.lg
              have q2 := congrArg List.length hl1.out
              have q3 := List.length_filter_le (fun e : Ed => ahT c e.2) held
              rw [show (eds l1).length = l1.length by simp [eds]] at q2
              omega
            have hL6n : L6.length ≤ 60 := by
              have q1 := hI5.out.lg
              rw [show (eds L6).length = L6.length by simp [eds]] at q1
              omega
            obtain ⟨A9, c9, qe, hec, hem, hat2⟩ := ew_form hE1.out
            cases qe
            unfold maxLen at hem
            replace hat2 := hide hat2
            have hrl := hide hI5.out.release
            go_loopg [10] l1.length (fun gh j wr => ∃ (q : Nat), j = .int .i64 q ∧ q + gh = l1.length ∧ Ext w6 wr)
            case atStart => exact ⟨0, rfl, by omega, Ext.refl _⟩
            case round =>
              obtain ⟨q, rfl, hq, hXj⟩ := hrel
              obtain ⟨wj, hwj⟩ : ∃ wj, wj = wr := ⟨_, rfl⟩
              subst hwj
              have xj := cell_later hXj x0
              have xjl := block_lt_of_cell xj
              haveI : In xb wj := ⟨xjl⟩
              by_cases hql : q < l1.length
              · have hqI : (q : Int) < l1.length := by omega
                have dq : decide ((q : Int) < l1.length) = true := decide_eq_true hqI
                obtain ⟨y, hy⟩ : ∃ y, l1[q]? = some y := ⟨_, List.getElem?_eq_getElem hql⟩
                obtain ⟨eb, eo, rfl, -, -, -, y1, -⟩ := hat2.out q y hy
                have z1 := cell_later hXj y1
                have z1l := block_lt_of_cell z1
                haveI : In eb wj := ⟨z1l⟩
                have hby := hrl.out.2 y.2 (by rw [← hl1.out]; exact List.mem_map.2 ⟨y, List.mem_of_getElem? hy, rfl⟩)
                obtain ⟨yv, yq, ya, yn⟩ := y
                simp only at z1 hby
                have dw : decide (ya < was) = false := decide_eq_false (by omega)
                have dc : decide (c ≤ ya) = false := decide_eq_false (by omega)
                have hqc := hide (fun w' (hx : Ext wj w') => lClock_c _ a ia [(c, ((held).filter fun e => !ahT c e.2))] (by simp) w' (hA6.out.ext (hXj.trans hx)))
                rw [clk_one hI5.out.c0.2.2] at hqc
                clear hy y1 hat2 hby
                go_wp2_with fail
                refine wp_region_gw (by kernel_rfl) (by kernel_rfl) ?_
                repeat (go_big_quiet_step ((go_at_call 7; with_reducible exact quiet_gw (hqc.out _ (GW.grown _)))))
                refine wpQuiet_nil ?_
                intro g
                go_wp2_with fail
                go_roundg (l1.length - (q + 1))
                case measure => omega
                case rel => exact ⟨q + 1, by go_num, by omega, hXj.trans g.grown⟩
              · have hqI : (l1.length : Int) ≤ q := by omega
                have dq : decide ((q : Int) < l1.length) = false := decide_eq_false (by omega)
                clear hat2
                go_wp2_with (first | (at_builtin; (refine wpl_app tEdg rfl (.tmp 134) (.tmp 137) rfl rfl (own_ext hP6.out.o6 hXj) rfl (src_sl Tryz.underlying34 (Sl.ext hE1.out.1 hXj) (Ew.one hE1.out) (by omega)) (by unfold maxLen; omega) (by omega) (Nat.le_trans hB6 hXj.size) ?_; intro v7 w7 ho7 hg7 hv7; obtain ⟨P7, k7, e7⟩ := own_form ho7; subst e7; obtain ⟨hP7, hA7⟩ := (hP6.out.ext hXj).app6 (hA6.out.ext hXj) (hE1.out.ext hXj) hiB ho7 hg7 hv7; have X7 := hide (ext_grown (X6.out.trans hXj) hg7 (fun z hz => Nat.le_trans hwB.out (hP6.out.o6.lt z hz).1)); replace hP7 := hide hP7; replace hA7 := hide hA7; have hB7 := Nat.le_trans (Nat.le_trans hB6 hXj.size) hg7.size; clear ho7 hg7 hv7)) | (go_at_call 7; (have hq8 := lClock_c _ a ia [(c, ((held).filter fun e => !ahT c e.2))] (by simp) w7 hA7.out; rw [clk_one hI5.out.c0.2.2] at hq8; (with_reducible refine seq_gw hq8 ?_); intro g8; clear hq8)))
                go_roundg (l.length - (k + 1))
                case measure => omega
                case rel => exact ⟨k + 1, c, c, ((held).filter fun e => !ahT c e.2), L5, L6 ++ l1, rfl, by go_num, by omega, hP7.out.ext g8.grown, hA7.out.ext g8.grown, (by have h9 := hrl.out.1; rw [← hl1.out] at h9; show SumI _ _ _ _ _ _; rw [show eds (L6 ++ l1) = eds L6 ++ eds l1 by simp [eds]]; exact h9), (fun hk9 => by omega), ⟨X7.out.trans g8.grown, Nat.le_trans hB7 g8.grown.size⟩⟩
      · have hge : (l.length : Int) ≤ k := by omega
        have dk : decide ((k : Int) < l.length) = false := decide_eq_false (by omega)
        obtain rfl := hKL.out (by omega)
        have hIe := hSI.out
        have hle := eN_pre l k
        have hL5n : L5.length ≤ 60 := by
          have q1 := hIe.lp
          rw [show (eds L5).length = L5.length by simp [eds]] at q1
          omega
        have hL6n : L6.length ≤ 60 := by
          have q1 := hIe.lg
          rw [show (eds L6).length = L6.length by simp [eds]] at q1
          omega
        have hq5 := hide (edgeNorm_c L5 (by omega) (fun r => Nat.le_trans (jmps_le _ r) (by simp [eds]; omega)) _ w0 hPG.out.ew5)
        have hq6 := hide (fun w' (hx : Ext w0 w') => edgeNorm_c L6 (by omega) (fun r => Nat.le_trans (jmps_le _ r) (by simp [eds]; omega)) _ w' (hPG.out.ew6.ext hx))
        have hq7 := hide (fun w' (hx : Ext w0 w') => lHeld_c _ a ia [(c, [])] (by simp) (by simp [heldN]) w' (hAL.out.ext hx))
        rw [show heldN [(c, [])] = 0 from rfl] at hq7
        by_cases hf : neE (eds L5) = 0
        · obtain ⟨hf2, hf3⟩ := eqv_ne hIe.fp hIe.fg (by have := hIe.eqv; rwa [List.append_nil] at this) hf
          rw [hf] at hq5
          rw [hf2, ← hf3] at hq6
          clear hIe hat hew hf hf2 hf3
          go_wp2_with (first | (go_at_call 20; first | ((with_reducible refine (hq6.out _ Y3.out).mono ?_); rintro ee w4 ⟨v4, M4, rfl, hM4, ho4, hx4⟩; obtain ⟨A4, c4, q4⟩ := own_form ho4.1; subst q4; have Y4 := hide hx4; replace hM4 := hide hM4; replace ho4 := hide ho4; clear hx4) | ((with_reducible refine hq5.out.mono ?_); rintro ee w3 ⟨v3, M3, rfl, hM3, ho3, hx3⟩; obtain ⟨A3, c3, q3⟩ := own_form ho3.1; subst q3; have Y3 := hide hx3; replace hM3 := hide hM3; replace ho3 := hide ho3; clear hx3)) | (go_at_call 6; first | ((with_reducible refine seq_gw' (alLive_c _) ?_); intro g0) | ((with_reducible refine seq_gw (alLive_c _) ?_); intro g0)) | (go_at_call 8; (with_reducible refine seq_gw' (hq7.out _ ((Y3.out.trans Y4.out).trans g0.grown)) ?_); intro g5) | (go_at_call 21; (have hq8 := refEdgeSame_c (ho3.out.ew.ext (Y4.out.trans g5.grown)) (ho4.out.ew.ext g5.grown); rw [decide_eq_true (hM3.out.trans hM4.out.symm)] at hq8; (with_reducible refine seq_gw' hq8 ?_); intro g6; clear hq8)))
          go_returns
          exact ⟨by first | rfl | simp, (hX.out.trans (Y3.out.trans Y4.out)).trans g6.grown⟩
        · have bf : (neE (eds L5) != 0) = true := by simp [hf]
          generalize neE (eds L5) = F at *
          generalize neE (eds L6) = F6 at *
          replace hf := hide hf
          clear hIe hat hew
          go_wp2_with (first | (go_at_call 20; first | ((with_reducible refine (hq6.out _ Y3.out).mono ?_); rintro ee w4 ⟨v4, M4, rfl, hM4, ho4, hx4⟩; obtain ⟨A4, c4, q4⟩ := own_form ho4.1; subst q4; have Y4 := hide hx4; replace hM4 := hide hM4; replace ho4 := hide ho4; clear hx4) | ((with_reducible refine hq5.out.mono ?_); rintro ee w3 ⟨v3, M3, rfl, hM3, ho3, hx3⟩; obtain ⟨A3, c3, q3⟩ := own_form ho3.1; subst q3; have Y3 := hide hx3; replace hM3 := hide hM3; replace ho3 := hide ho3; clear hx3)) | (go_at_call 6; first | ((with_reducible refine seq_gw' (alLive_c _) ?_); intro g0) | ((with_reducible refine seq_gw (alLive_c _) ?_); intro g0)) | (go_at_call 8; (with_reducible refine seq_gw' (hq7.out _ ((Y3.out.trans Y4.out).trans g0.grown)) ?_); intro g5))
          go_returns
          exact ⟨by first | rfl | simp, (hX.out.trans (Y3.out.trans Y4.out)).trans g5.grown⟩
  · rw [decide_eq_false hs] at hSm
    clear hs hat hew
    go_enter Tryz.func4, Tryz.ntmps4
    go_wp2_with (first | (go_at_call 10; (with_reducible refine seq_gw hSm.out ?_); intro g1) | (go_at_call 6; first | ((with_reducible refine seq_gw' (alLive_c _) ?_); intro g0) | ((with_reducible refine seq_gw (alLive_c _) ?_); intro g0)))
    go_returns
    exact ⟨by first | rfl | simp, g0.grown⟩

theorem own : ownKnob Tryz.prog.godebug = none := by kernel_rfl
theorem laidOut : laidOutB Tryz.prog = true := by kernel_rfl
set_option maxRecDepth 100000 in
theorem lifted (os : Os) (started : os.Started) (H : Type) (enc : TypeId × Value → H) :
    ReturnsInHanded {} Tryz.checked os 4 .any (Rows.alignSumsSpec.pre6 enc Tryz.prog Tryz.f4 Rows.alignSumsRow.domain false) (Rows.alignSumsSpec.post enc Tryz.prog Tryz.f4 false true false false) := by
  refine returnsInHanded_of_change_sized (C := Tryz.checked) own started (by kernel_rfl) Tryz.func4
    (ChangeSpec.witness6 (enc := enc) (C := Tryz.checked) false ⟨#[], #[.slice none 0 0], []⟩ 8 (by kernel_rfl) (by kernel_rfl) (by kernel_rfl) (by kernel_rfl)) ?_
  intro W base args ds gs before hval0 hW hcnd hsz0 _
  have hsz : (DataW.weightsEach Tryz.prog (Tryz.f4.params.toList ++ Rows.alignSumsSpec.plain.varTypes Tryz.prog) (ds ++ gs)).all (· ≤ reachBytes) = true := hsz0
  clear hsz0
  have hval : ∀ (j : Nat) t v, Tryz.f4.params[j]? = some t → args[j]? = some v → Value.okWide Tryz.prog W .any base t v := hval0
  have hW' := hW
  obtain ⟨p, q, hA0, hV, rfl, hfz, hnd⟩ := hW
  have hA : DataW.TrodAll enc Tryz.prog W 0 (fun _ => true) true Tryz.f4.params.toList args.toList ds p := hA0
  rw [Tryz.params4] at hA hval hsz
  obtain ⟨v0, vs0, d0, ds0, p0, q0, hargs, rfl, rfl, h0, r0⟩ := trodAll_cons hA
  obtain ⟨rfl, rfl, rfl⟩ := trodAll_nil r0
  obtain rfl : args = #[v0] := by cases args; simp_all
  obtain ⟨rfl, rfl⟩ := trodVars_none hV
  have k0 := h0
  have lt0 : ∀ x ∈ p0, x.block < W.heap.size := by obtain ⟨m, hm⟩ := k0; exact DataW.trod_lt m _ _ _ hm
  obtain ⟨A0, n0, c0, rfl⟩ := okWide_slice Tryz.underlying22 (hval 0 22 v0 rfl rfl)
  have ⟨m0, hm0⟩ := h0
  obtain ⟨l, ll, hl⟩ := open_ops4 Tryz.underlying22 Tryz.underlying36 (by kernel_rfl) rfl rfl rfl rfl (by kernel_rfl) (by kernel_rfl) (by kernel_rfl) (by kernel_rfl) Tryz.underlying3 Tryz.underlying3 Tryz.underlying3 Tryz.underlying34 Tryz.underlying44 (by kernel_rfl) rfl rfl rfl (by kernel_rfl) (by kernel_rfl) (by kernel_rfl) Tryz.underlying42 Tryz.underlying3 Tryz.underlying3 Tryz.underlying53 (by kernel_rfl) rfl rfl rfl (by kernel_rfl) (by kernel_rfl) (by kernel_rfl) Tryz.underlying51 Tryz.underlying3 Tryz.underlying9 hm0
  clear hA0 hval0
  refine (walk l _ W hl).mono fun e W' ⟨he, bel⟩ => ?_
  subst he
  exact ⟨_, rfl, _, _, _, [], _, [], hW', trodAll_mk1 (shut_bool Tryz.underlying4 _), (trodAll_cons_mk (Below.trod laidOut (by kernel_rfl) (of_decide_eq_true (by kernel_rfl)) k0 bel lt0) trodAll_mk0), rfl, bel.frame _, fun h => by cases h⟩

theorem over : Rows.alignSumsRow.holds Tryz.pinned (OpenSpec.ofChange Rows.alignSumsSpec) :=
  OpenClaim.holds_of_wide 4 Tryz.f4 rfl rfl rfl rfl rfl rfl rfl ⟨rfl, rfl, rfl, rfl, rfl⟩ rfl rfl rfl rfl rfl (by kernel_rfl) Tryz.func4 (by kernel_rfl)
    (of_decide_eq_true (by kernel_rfl)) (by unfold Func.isWrapper; first | (rw [if_pos (by decide +kernel)]; kernel_rfl) | (rw [if_neg (by decide +kernel)]; exact ⟨rfl, rfl⟩))
    (fun os started H enc _ => lifted os started H enc)

theorem alignSums_holds : Rows.AlignSumsSaid := over
end Go.Proofs.YtjmoifbajjemmaaGreat.alignSums
