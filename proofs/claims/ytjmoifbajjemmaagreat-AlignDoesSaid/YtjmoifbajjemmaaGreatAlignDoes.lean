/-
  Layer 16 (align), 16.1 and 16.2: for every number of inputs, and script (of which those of up to 60 steps and edges count), the errors, the clock, what is released and what is held is as the document says. No condition.
-/
import Derived.Test.YtjmoifbajjemmaaGreatAlnO
import Derived.WalkKit
import Derived.ProofKit
import Derived.OpenShut
import Derived.ShutString
import Derived.ChangeOld
import Derived.Below
import Derived.Lib.SmallJoins
import Derived.SizedLaws
import Derived.Deep.CondSized
import Derived.JoinedCond
set_option linter.unusedVariables false
set_option linter.unusedSimpArgs false
namespace Go.Proofs.YtjmoifbajjemmaaGreat.alignDoes
open Go.ChangeShapes Go.WideShapes Go.ChangeAt Go.RowKit Go.Joins
open Go.ChangeMaps (open_string shut_string)
attribute [local go_sem] GW.cell GW.frozen In.eq_true In.le_true In.ne In.ne' In.ne_add In.ne_add' In.lt_add Upto.le_true Upto.le_add Upto.lt_add
set_option maxHeartbeats 8000000 in
set_option maxRecDepth 100000 in
theorem walk (n : Int) (l : List Op4) (v : Value) (w : World) (h : Oz w v l) : Calls Tryz.prog 3 #[.int .i64 n, v] w fun e w' => e = .returned (.bool true) ∧ Ext w w' := by
  by_cases hn : n < 1 ∨ 8 < n
  · have hN := hide (alNewB_c n hn w)
    obtain ⟨VA, acap, rfl, -, -, -⟩ := oz_form h
    clear h
    by_cases h1 : n < 1
    · have d1 : decide (n < 1) = true := decide_eq_true h1
      clear hn
      go_enter Tryz.func3, Tryz.ntmps3
      go_wp2_with (first | (go_at_call 5; (with_reducible refine seq_gw hN.out ?_); intro g9) | (go_at_call 6; first | ((with_reducible refine seq_gw' (alLive_c _) ?_); intro g0) | ((with_reducible refine seq_gw (alLive_c _) ?_); intro g0)) | (go_at_call 7; (with_reducible refine seq_gw' (alClockN_c _) ?_); intro g5) | (go_at_call 8; (with_reducible refine seq_gw' (alHeldN_c _) ?_); intro g6) | (go_at_call 9; (with_reducible refine seq_gw' (alRelN_c _) ?_); intro g7))
      go_returns
      exact ⟨by first | rfl | simp, g7.grown⟩
    · have d1 : decide (n < 1) = false := decide_eq_false h1
      have h2 : 8 < n := by omega
      have d2 : decide (8 < n) = true := decide_eq_true h2
      clear hn
      go_enter Tryz.func3, Tryz.ntmps3
      go_wp2_with (first | (go_at_call 5; (with_reducible refine seq_gw hN.out ?_); intro g9) | (go_at_call 6; first | ((with_reducible refine seq_gw' (alLive_c _) ?_); intro g0) | ((with_reducible refine seq_gw (alLive_c _) ?_); intro g0)) | (go_at_call 7; (with_reducible refine seq_gw' (alClockN_c _) ?_); intro g5) | (go_at_call 8; (with_reducible refine seq_gw' (alHeldN_c _) ?_); intro g6) | (go_at_call 9; (with_reducible refine seq_gw' (alRelN_c _) ?_); intro g7))
      go_returns
      exact ⟨by first | rfl | simp, g7.grown⟩
  obtain ⟨m, rfl⟩ : ∃ m : Nat, n = m := ⟨n.toNat, by omega⟩
  have hm1 : 1 ≤ m := by omega
  have hm8 : m ≤ 8 := by omega
  have d1 : decide ((m : Int) < 1) = false := decide_eq_false (by omega)
  have d2 : decide (8 < (m : Int)) = false := decide_eq_false (by omega)
  have hN := hide (alNew_c m hm1 hm8 w)
  have hSm := hide (fun w' (hx : Ext w w') => alSmall_c l v w' (h.ext hx))
  have hew := hide h.2
  obtain ⟨VA, acap, rfl, hlc, hlm, hat⟩ := oz_form h
  unfold maxLen at hlm
  replace hat := hide hat
  clear h hn
  by_cases hs : szN l ≤ 60
  · rw [decide_eq_true hs] at hSm
    obtain ⟨hl60, he60⟩ := small_eN hs
    clear hs
    go_enter Tryz.func3, Tryz.ntmps3
    go_wp2_with (first | (go_at_call 5; (refine hN.out.mono ?_; rintro ee w1 ⟨a, ia, rfl, ⟨ha1, ha2, hane, hoa, hoi⟩, hx1⟩; have hX1 := hide hx1; replace hoa := hide hoa; replace hoi := hide hoi; clear hx1)) | (go_at_call 10; (with_reducible refine seq_gw (hSm.out _ hX1.out) ?_); intro g1) | (go_at_call 11; (refine (refAlNew_c m hm1 hm8 _).mono ?_; rintro ee w3 ⟨r, cb, hb, cc, hc, rfl, ⟨hr1, hr2, hr3, hrc, hrh, hch, hor, hoc, hoh⟩, hx3⟩; replace hor := hide hor; replace hoc := hide hoc; replace hoh := hide hoh; replace hx3 := hide hx3)))
    have hg1 := g1.grown.size
    have hz1 := hX1.out.size
    have hal := hoa.out.lt
    have hil := hoi.out.lt
    obtain ⟨S, hSe⟩ : ∃ S, S = [ia, cb, hb] := ⟨_, rfl⟩
    have E3 := g1.grown.trans hx3.out
    have hX3 := hide (hX1.out.trans E3)
    have hAL0 := hide (AL.new (S := S) (hoa.out.ext E3) (hoi.out.ext E3) (by rw [hSe]; simp; omega) hane)
    have hRL0 := hide (RL.new (S := S) hor.out hoc.out hoh.out (by rw [hSe]; simp; omega) hch)
    have hlow := hide (show ∀ b, b ∈ S → w.heap.size ≤ b by rw [hSe]; simp; omega)
    have hz3 := E3.size
    have hne := hide (show ia ≠ cb ∧ ia ≠ hb by omega)
    have hmem := hide (show ia ∈ S ∧ cb ∈ S ∧ hb ∈ S by rw [hSe]; simp)
    replace hSe := hide hSe
    clear E3 hor hoc hoh hoa hoi hal hil hx3 hz3 hg1 hz1 hr1 hr2 hr3 hrc hrh hane ha1 ha2 hSm hN
    replace hch := hide hch
    go_loopg [8] l.length (fun gh i wr => ∃ (k : Nat) (X : List Xi), i = .int .i64 k ∧ k + gh = l.length ∧ X.length = m ∧ Hid (InvX X) ∧ heldN X ≤ eN (l.take k) ∧ Hid (AL wr S a ia X) ∧ Hid (RL wr S r cb hb cc hc X) ∧ Hid (Ext w wr))
    case atStart => exact ⟨0, List.replicate m (0, []), rfl, by omega, by simp, inv_nil m, by rw [held_nil]; exact Nat.zero_le _, hAL0, hRL0, hX3⟩
    case round =>
      obtain ⟨k, X, rfl, hk, hXl, hXI, hXN, hAL, hRL, hX⟩ := hrel
      obtain ⟨w0, hw0⟩ : ∃ w0, w0 = wr := ⟨_, rfl⟩
      subst hw0
      have hal := hAL.out.lt
      have hrl := hRL.out.lt
      have hS0 := hide (show ∀ b, b ∈ S → b < w0.heap.size by rw [hSe.out]; simp; omega)
      have hSz := hide (fun (w' : World) (hx : w0.heap.size ≤ w'.heap.size) => show ∀ b, b ∈ S → b < w'.heap.size from fun b hb' => Nat.lt_of_lt_of_le (hS0.out b hb') hx)
      haveI : In a w0 := ⟨hal.1⟩
      haveI : In r w0 := ⟨hrl.1⟩
      have hpre := eN_pre l k
      have hTc := hide (show cb ∉ [ia] by simp; exact Ne.symm hne.out.1)
      have hTh := hide (show hb ∉ [ia] by simp; exact Ne.symm hne.out.2)
      have hsub1 := hide (show ∀ b, b ∈ [ia] → b ∈ S by intro b hb'; rw [List.mem_singleton.1 hb']; exact hmem.out.1)
      have hlow1 := hide (show ∀ b, b ∈ [ia] → w.heap.size ≤ b from fun b hb' => hlow.out b (hsub1.out b hb'))
      by_cases hkl : k < l.length
      · have hkI : (k : Int) < l.length := by omega
        have dk : decide ((k : Int) < l.length) = true := decide_eq_true hkI
        obtain ⟨x, hx⟩ : ∃ x, l[k]? = some x := ⟨_, List.getElem?_eq_getElem hkl⟩
        obtain ⟨b0, o, rfl, hbl, c0, c1, c2, c3⟩ := hat.out k x hx
        have hep := eN_pre l (k + 1)
        have hes := eN_snoc hx
        have hMw := hew.out x (List.mem_of_getElem? hx)
        have k0 := cell_later hX.out c0
        have k1 := cell_later hX.out c1
        have k2 := cell_later hX.out c2
        have k3 := cell_later hX.out c3
        have hbr : b0 < w0.heap.size := block_lt_of_cell k0
        haveI : In b0 w0 := ⟨hbr⟩
        obtain ⟨⟨kd, inp, tk⟩, mv, M⟩ := x
        simp only at k0 k1 k2 k3 hMw hes
        obtain ⟨MA, mcap, rfl⟩ := ew_one hMw
        have hMl : (eds M).length = M.length := by simp [eds]
        clear c0 c1 c2 c3 hat hew hx
        by_cases e0 : kd = 0
        · subst e0
          obtain ⟨E, hE⟩ : ∃ E, E = putE X inp (eds M) := ⟨_, rfl⟩
          obtain ⟨Y, hY⟩ : ∃ Y, Y = putX X inp (eds M) := ⟨_, rfl⟩
          have hYl : Y.length = m := by rw [hY, put_len]; exact hXl
          have hYI := hide (show InvX Y by rw [hY]; exact put_inv hXI.out _ _)
          have hYN : heldN Y ≤ eN (l.take (k + 1)) := by have := held_put X inp (eds M); rw [hY]; omega
          have hY9 : heldN Y ≤ 1000000000 := by omega
          have hMT := hide (fun w' (hF : Fr [ia, hb] w0 w') => (((Ew.newA (S' := [ia, hb]) hMw (fun b hb' => .inr (by simp only [List.mem_cons, List.not_mem_nil, or_false] at hb'; rcases hb' with rfl | rfl <;> first | exact hlow.out _ hmem.out.1 | exact hlow.out _ hmem.out.2.2))).ext hX.out).fr hF (fun _ hb => hb)).less (S' := []) (by simp))
          have hSF := hide (fun w' (hF : Fr [ia, hb] w0 w') => show ∀ b, b ∈ S → b < w'.heap.size from fun b hb' => Nat.lt_of_lt_of_le (hS0.out b hb') hF.size)
          have hP1 := hide (fun w' (hF : Fr [ia, hb] w0 w') (hA : AL w' S a ia X) => lPut_c S a ia X inp (.slice MA M.length mcap) M w' hA (hMT.out w' hF) (hSF.out w' hF))
          have hP2 := hide (fun w' (hF : Fr [ia, hb] w0 w') (hR : RL w' S r cb hb cc hc X) => mPut_c S r cb hb cc hc X inp (.slice MA M.length mcap) M (fun p hp => by have := held_each hp; omega) w' hR (hMT.out w' hF) (hSF.out w' hF))
          rw [← hE, ← hY] at hP1 hP2
          have hT1 := hide (show ∀ q, q ∈ [ia] → q ∈ [ia, hb] by simp)
          have hT2 := hide (show ∀ q, q ∈ [hb] → q ∈ [ia, hb] by simp)
          have hTS1 := hsub1
          have hTS2 := hide (show ∀ q, q ∈ [hb] → q ∈ S by intro q hq; rw [List.mem_singleton.1 hq]; exact hmem.out.2.2)
          have hTi := hide (show ia ∉ [hb] by simp; exact hne.out.2)
          have hTlow := hide (show ∀ b, b ∈ [ia, hb] → w.heap.size ≤ b by intro b hb'; simp only [List.mem_cons, List.not_mem_nil, or_false] at hb'; rcases hb' with rfl | rfl <;> first | exact hlow.out _ hmem.out.1 | exact hlow.out _ hmem.out.2.2)
          have hb0n := hide (show b0 ∉ [ia, hb] from fun m => by have := hTlow.out b0 m; omega)
          replace hE := hide hE
          replace hY := hide hY
          clear hXN hXl hes hep hpre hMl
          go_wp2_with fail
          refine wp_region_objs (S := [ia, hb]) [.is (.pointer (some ⟨a, 0, none⟩)), .is (.slice (some ⟨b0, o, none⟩) l.length acap), .is (.int .i64 k), .is (.pointer (some ⟨b0, o + k * 4, none⟩)), .is (.pointer (some ⟨b0, o + k * 4 + 1, none⟩)), .is (.int .i64 inp), .is (.slice (some ⟨b0, o, none⟩) l.length acap), .is (.int .i64 k), .is (.pointer (some ⟨b0, o + k * 4, none⟩)), .is (.pointer (some ⟨b0, o + k * 4 + 2, none⟩)), .is (.slice MA M.length mcap), .is (.int .i64 E), .is (.pointer (some ⟨r, 0, none⟩)), .is (.slice (some ⟨b0, o, none⟩) l.length acap), .is (.int .i64 k), .is (.pointer (some ⟨b0, o + k * 4, none⟩)), .is (.pointer (some ⟨b0, o + k * 4 + 1, none⟩)), .is (.int .i64 inp), .is (.slice (some ⟨b0, o, none⟩) l.length acap), .is (.int .i64 k), .is (.pointer (some ⟨b0, o + k * 4, none⟩)), .is (.pointer (some ⟨b0, o + k * 4 + 2, none⟩)), .is (.slice MA M.length mcap), .is (.int .i64 E), .is (.bool false)] (relP S a ia r cb hb cc hc 11 23 X Y) [11, 23] (by kernel_rfl) (by kernel_rfl) (by kernel_rfl) (fun _ _ _ hj hx => relP_ext hj hx) relP_keys ⟨hAL.out, hRL.out⟩ ?_ ?_
          · refine ⟨?_, ?_, ?_, ?_, ?_, ?_, ?_, ?_, ?_, ?_, ?_, ?_, ?_, ?_, ?_, ?_, ?_, ?_, ?_, ?_, ?_, ?_, ?_, ?_, ?_, trivial⟩
            · intro b w' Lf h
              have f5 : b.tmps.getD 5 undef = (.pointer (some ⟨a, 0, none⟩)) := h.else_ 5 (of_decide_eq_true (by kernel_rfl))
              exact .inl ⟨by decide, good_move (wanted_none rfl) rfl f5⟩
            · intro b w' Lf h
              have f1 : b.tmps.getD 1 undef = (.slice (some ⟨b0, o, none⟩) l.length acap) := h.else_ 1 (of_decide_eq_true (by kernel_rfl))
              exact .inl ⟨by decide, good_move (wanted_none rfl) rfl f1⟩
            · intro b w' Lf h
              have f8 : b.tmps.getD 8 undef = (.int .i64 k) := h.else_ 8 (of_decide_eq_true (by kernel_rfl))
              exact .inl ⟨by decide, good_move (wanted_none rfl) rfl f8⟩
            · intro b w' Lf h
              have f71 : b.tmps.getD 71 undef = (.slice (some ⟨b0, o, none⟩) l.length acap) := h.dep 1 _ 71 (by kernel_rfl) rfl rfl
              have f72 : b.tmps.getD 72 undef = (.int .i64 k) := h.dep 2 _ 72 (by kernel_rfl) rfl rfl
              exact .inl ⟨by decide, good_index (wanted_none rfl) rfl f71 f72 (by simp [go_sem, hkI]) rfl⟩
            · intro b w' Lf h
              have f73 : b.tmps.getD 73 undef = (.pointer (some ⟨b0, o + k * 4, none⟩)) := h.dep 3 _ 73 (by kernel_rfl) rfl rfl
              exact .inl ⟨by decide, good_field (wanted_none rfl) rfl f73 (by simp [go_sem]) rfl⟩
            · intro b w' Lf h
              have f74 : b.tmps.getD 74 undef = (.pointer (some ⟨b0, o + k * 4 + 1, none⟩)) := h.dep 4 _ 74 (by kernel_rfl) rfl rfl
              have c := cell_fr h.ext k1 hb0n.out
              exact .inl ⟨by decide, good_load (wanted_none rfl) rfl f74 (by simp [go_sem, c]) rfl⟩
            · intro b w' Lf h
              have f1 : b.tmps.getD 1 undef = (.slice (some ⟨b0, o, none⟩) l.length acap) := h.else_ 1 (of_decide_eq_true (by kernel_rfl))
              exact .inl ⟨by decide, good_move (wanted_none rfl) rfl f1⟩
            · intro b w' Lf h
              have f8 : b.tmps.getD 8 undef = (.int .i64 k) := h.else_ 8 (of_decide_eq_true (by kernel_rfl))
              exact .inl ⟨by decide, good_move (wanted_none rfl) rfl f8⟩
            · intro b w' Lf h
              have f76 : b.tmps.getD 76 undef = (.slice (some ⟨b0, o, none⟩) l.length acap) := h.dep 6 _ 76 (by kernel_rfl) rfl rfl
              have f77 : b.tmps.getD 77 undef = (.int .i64 k) := h.dep 7 _ 77 (by kernel_rfl) rfl rfl
              exact .inl ⟨by decide, good_index (wanted_none rfl) rfl f76 f77 (by simp [go_sem, hkI]) rfl⟩
            · intro b w' Lf h
              have f78 : b.tmps.getD 78 undef = (.pointer (some ⟨b0, o + k * 4, none⟩)) := h.dep 8 _ 78 (by kernel_rfl) rfl rfl
              exact .inl ⟨by decide, good_field (wanted_none rfl) rfl f78 (by simp [go_sem]) rfl⟩
            · intro b w' Lf h
              have f79 : b.tmps.getD 79 undef = (.pointer (some ⟨b0, o + k * 4 + 2, none⟩)) := h.dep 9 _ 79 (by kernel_rfl) rfl rfl
              have c := cell_fr h.ext k2 hb0n.out
              exact .inl ⟨by decide, good_load (wanted_none rfl) rfl f79 (by simp [go_sem, c]) rfl⟩
            · intro b w' Lf h
              have f70 : b.tmps.getD 70 undef = (.pointer (some ⟨a, 0, none⟩)) := h.dep 0 _ 70 (by kernel_rfl) rfl rfl
              have g70 : b.tmps[70]?.getD undef = (.pointer (some ⟨a, 0, none⟩)) := by rw [← Array.getD_eq_getD_getElem?]; exact f70
              have f75 : b.tmps.getD 75 undef = (.int .i64 inp) := h.dep 5 _ 75 (by kernel_rfl) rfl rfl
              have g75 : b.tmps[75]?.getD undef = (.int .i64 inp) := by rw [← Array.getD_eq_getD_getElem?]; exact f75
              have f80 : b.tmps.getD 80 undef = (.slice MA M.length mcap) := h.dep 10 _ 80 (by kernel_rfl) rfl rfl
              have g80 : b.tmps[80]?.getD undef = (.slice MA M.length mcap) := by rw [← Array.getD_eq_getD_getElem?]; exact f80
              refine .inr (goodM_call (wanted_none rfl) rfl (enters Tryz.func12 (by kernel_rfl) rfl) ?_)
              rw [show (#[.tmp 70, .tmp 75, .tmp 80] : Array Operand).map b.eval = #[(.pointer (some ⟨a, 0, none⟩)), (.int .i64 inp), (.slice MA M.length mcap)] by simp [Act.eval, g70, g75, g80]]
              exact (hP1.out w' h.ext (relP_fst h.obj h.fresh)).mono fun e w1 ⟨he, hA, hF⟩ => ⟨_, he, rfl, hF.more (fun q _ hq => hT1.out q hq), relP_one (by decide) h.obj hA hF hTS1.out hTc.out hTh.out⟩
            · intro b w' Lf h
              have f7 : b.tmps.getD 7 undef = (.pointer (some ⟨r, 0, none⟩)) := h.else_ 7 (of_decide_eq_true (by kernel_rfl))
              exact .inl ⟨by decide, good_move (wanted_none rfl) rfl f7⟩
            · intro b w' Lf h
              have f1 : b.tmps.getD 1 undef = (.slice (some ⟨b0, o, none⟩) l.length acap) := h.else_ 1 (of_decide_eq_true (by kernel_rfl))
              exact .inl ⟨by decide, good_move (wanted_none rfl) rfl f1⟩
            · intro b w' Lf h
              have f8 : b.tmps.getD 8 undef = (.int .i64 k) := h.else_ 8 (of_decide_eq_true (by kernel_rfl))
              exact .inl ⟨by decide, good_move (wanted_none rfl) rfl f8⟩
            · intro b w' Lf h
              have f83 : b.tmps.getD 83 undef = (.slice (some ⟨b0, o, none⟩) l.length acap) := h.dep 13 _ 83 (by kernel_rfl) rfl rfl
              have f84 : b.tmps.getD 84 undef = (.int .i64 k) := h.dep 14 _ 84 (by kernel_rfl) rfl rfl
              exact .inl ⟨by decide, good_index (wanted_none rfl) rfl f83 f84 (by simp [go_sem, hkI]) rfl⟩
            · intro b w' Lf h
              have f85 : b.tmps.getD 85 undef = (.pointer (some ⟨b0, o + k * 4, none⟩)) := h.dep 15 _ 85 (by kernel_rfl) rfl rfl
              exact .inl ⟨by decide, good_field (wanted_none rfl) rfl f85 (by simp [go_sem]) rfl⟩
            · intro b w' Lf h
              have f86 : b.tmps.getD 86 undef = (.pointer (some ⟨b0, o + k * 4 + 1, none⟩)) := h.dep 16 _ 86 (by kernel_rfl) rfl rfl
              have c := cell_fr h.ext k1 hb0n.out
              exact .inl ⟨by decide, good_load (wanted_none rfl) rfl f86 (by simp [go_sem, c]) rfl⟩
            · intro b w' Lf h
              have f1 : b.tmps.getD 1 undef = (.slice (some ⟨b0, o, none⟩) l.length acap) := h.else_ 1 (of_decide_eq_true (by kernel_rfl))
              exact .inl ⟨by decide, good_move (wanted_none rfl) rfl f1⟩
            · intro b w' Lf h
              have f8 : b.tmps.getD 8 undef = (.int .i64 k) := h.else_ 8 (of_decide_eq_true (by kernel_rfl))
              exact .inl ⟨by decide, good_move (wanted_none rfl) rfl f8⟩
            · intro b w' Lf h
              have f88 : b.tmps.getD 88 undef = (.slice (some ⟨b0, o, none⟩) l.length acap) := h.dep 18 _ 88 (by kernel_rfl) rfl rfl
              have f89 : b.tmps.getD 89 undef = (.int .i64 k) := h.dep 19 _ 89 (by kernel_rfl) rfl rfl
              exact .inl ⟨by decide, good_index (wanted_none rfl) rfl f88 f89 (by simp [go_sem, hkI]) rfl⟩
            · intro b w' Lf h
              have f90 : b.tmps.getD 90 undef = (.pointer (some ⟨b0, o + k * 4, none⟩)) := h.dep 20 _ 90 (by kernel_rfl) rfl rfl
              exact .inl ⟨by decide, good_field (wanted_none rfl) rfl f90 (by simp [go_sem]) rfl⟩
            · intro b w' Lf h
              have f91 : b.tmps.getD 91 undef = (.pointer (some ⟨b0, o + k * 4 + 2, none⟩)) := h.dep 21 _ 91 (by kernel_rfl) rfl rfl
              have c := cell_fr h.ext k2 hb0n.out
              exact .inl ⟨by decide, good_load (wanted_none rfl) rfl f91 (by simp [go_sem, c]) rfl⟩
            · intro b w' Lf h
              have f82 : b.tmps.getD 82 undef = (.pointer (some ⟨r, 0, none⟩)) := h.dep 12 _ 82 (by kernel_rfl) rfl rfl
              have g82 : b.tmps[82]?.getD undef = (.pointer (some ⟨r, 0, none⟩)) := by rw [← Array.getD_eq_getD_getElem?]; exact f82
              have f87 : b.tmps.getD 87 undef = (.int .i64 inp) := h.dep 17 _ 87 (by kernel_rfl) rfl rfl
              have g87 : b.tmps[87]?.getD undef = (.int .i64 inp) := by rw [← Array.getD_eq_getD_getElem?]; exact f87
              have f92 : b.tmps.getD 92 undef = (.slice MA M.length mcap) := h.dep 22 _ 92 (by kernel_rfl) rfl rfl
              have g92 : b.tmps[92]?.getD undef = (.slice MA M.length mcap) := by rw [← Array.getD_eq_getD_getElem?]; exact f92
              refine .inr (goodM_call (wanted_none rfl) rfl (enters Tryz.func13 (by kernel_rfl) rfl) ?_)
              rw [show (#[.tmp 82, .tmp 87, .tmp 92] : Array Operand).map b.eval = #[(.pointer (some ⟨r, 0, none⟩)), (.int .i64 inp), (.slice MA M.length mcap)] by simp [Act.eval, g82, g87, g92]]
              exact (hP2.out w' h.ext (relP_snd h.obj h.fresh)).mono fun e w1 ⟨he, hR, hF⟩ => ⟨_, he, rfl, hF.more (fun q _ hq => hT2.out q hq), relP_two (by decide) h.obj hR hF hTS2.out hTi.out⟩
            · intro b w' Lf h
              have f81 : b.tmps.getD 81 undef = (.int .i64 E) := h.dep 11 _ 81 (by kernel_rfl) rfl rfl
              have f93 : b.tmps.getD 93 undef = (.int .i64 E) := h.dep 23 _ 93 (by kernel_rfl) rfl rfl
              exact .inl ⟨by decide, good_bin (wanted_none rfl) rfl f81 f93 (by exact guard_int _) (by exact run_neq_int Tryz.underlying24 E _) rfl⟩
          intro b1 wz hF7 hd7 hz7 he7 hf7 hJ7
          obtain ⟨hA7, hR7⟩ := relP_all (hJ7 (fun j => decide (j < 25)) (by intro j hj; simpa using hj) (by intro j hj; simpa using hj)) rfl rfl
          have f94 : b1.tmps.getD 94 undef = .bool false := hf7 24 _ 94 rfl rfl
          clear hJ7 hf7
          have e := frame_puts hd7 hz7 he7
          obtain ⟨x, hx⟩ : ∃ x : Nat → Value, ∀ d, b1.tmps.getD d undef = x d := ⟨_, fun _ => rfl⟩
          rw [hx] at f94
          rw [show dstsOf _ = [70, 71, 72, 73, 74, 75, 76, 77, 78, 79, 80, 81, 82, 83, 84, 85, 86, 87, 88, 89, 90, 91, 92, 93, 94] from rfl] at e
          simp only [List.foldl, hx, Act.put, List.setIfInBounds_toArray, List.set_cons_succ, List.set_cons_zero] at e
          rw [f94] at e
          clear hx f94 he7 hz7 hd7
          subst e
          have hAz := hide hA7
          have hRz := hide hR7
          have hXz := hide (ext_fr hX.out hF7 hTlow.out)
          clear hA7 hR7 hF7
          have hq1 := hide (fun w' (hx : Ext wz w') => lClock_c S a ia Y (by omega) w' (hAz.out.ext hx))
          have hq2 := hide (fun w' (hx : Ext wz w') => mClock_c S r cb hb cc hc Y (by omega) (by omega) hYI.out w' (hRz.out.ext hx))
          have hq3 := hide (fun w' (hx : Ext wz w') => lHeld_c S a ia Y (by omega) hY9 w' (hAz.out.ext hx))
          have hq4 := hide (fun w' (hx : Ext wz w') => mHeld_c S r cb hb cc hc Y (by omega) hY9 w' (hRz.out.ext hx))
          obtain ⟨zc, hzc⟩ : ∃ z, z = clkX Y := ⟨_, rfl⟩
          obtain ⟨zh, hzh⟩ : ∃ z, z = heldN Y := ⟨_, rfl⟩
          rw [← hzc] at hq1 hq2
          rw [← hzh] at hq3 hq4
          have bz1 : (zc != zc) = false := by simp
          have bz2 : ((zh : Int) != (zh : Int)) = false := by simp
          have hYh := hide (And.intro hYl hYN)
          replace hzc := hide hzc
          replace hzh := hide hzh
          clear hYl hYN hY9
          go_wp2_with (first | (go_at_call 7; (with_reducible refine seq_gw (hq1.out _ (Ext.refl _)) ?_); intro g1) | (go_at_call 18; (with_reducible refine seq_gw' (hq2.out _ g1.grown) ?_); intro g2) | (go_at_call 8; (with_reducible refine seq_gw' (hq3.out _ g2.grown) ?_); intro g3) | (go_at_call 19; (with_reducible refine seq_gw' (hq4.out _ g3.grown) ?_); intro g4))
          go_roundg (l.length - (k + 1))
          case measure => omega
          case rel => exact ⟨k + 1, Y, by go_num, by omega, hYh.out.1, hYI, hYh.out.2, hAz.out.ext g4.grown, hRz.out.ext g4.grown, hXz.out.trans g4.grown⟩
        by_cases e1 : kd = 1
        · subst e1
          obtain ⟨E, hE⟩ : ∃ E, E = raiE X inp tk := ⟨_, rfl⟩
          obtain ⟨Y, hY⟩ : ∃ Y, Y = raiX X inp tk := ⟨_, rfl⟩
          have hYl : Y.length = m := by rw [hY, rai_len]; exact hXl
          have hYI := hide (show InvX Y by rw [hY]; exact rai_inv hXI.out _ _)
          have hYN : heldN Y ≤ eN (l.take (k + 1)) := by rw [hY, held_rai]; omega
          have hY9 : heldN Y ≤ 1000000000 := by omega
          have hP1 := hide (fun w' (hF : Fr [ia, cb] w0 w') (hA : AL w' S a ia X) => lRaise_c S a ia X inp tk w' hA)
          have hP2 := hide (fun w' (hF : Fr [ia, cb] w0 w') (hR : RL w' S r cb hb cc hc X) => mRaise_c S r cb hb cc hc X inp tk w' hR)
          rw [← hE, ← hY] at hP1 hP2
          have hT1 := hide (show ∀ q, q ∈ [ia] → q ∈ [ia, cb] by simp)
          have hT2 := hide (show ∀ q, q ∈ [cb] → q ∈ [ia, cb] by simp)
          have hTS1 := hsub1
          have hTS2 := hide (show ∀ q, q ∈ [cb] → q ∈ S by intro q hq; rw [List.mem_singleton.1 hq]; exact hmem.out.2.1)
          have hTi := hide (show ia ∉ [cb] by simp; exact hne.out.1)
          have hTlow := hide (show ∀ b, b ∈ [ia, cb] → w.heap.size ≤ b by intro b hb'; simp only [List.mem_cons, List.not_mem_nil, or_false] at hb'; rcases hb' with rfl | rfl <;> first | exact hlow.out _ hmem.out.1 | exact hlow.out _ hmem.out.2.1)
          have hb0n := hide (show b0 ∉ [ia, cb] from fun m => by have := hTlow.out b0 m; omega)
          replace hE := hide hE
          replace hY := hide hY
          clear hXN hXl hes hep hpre hMl
          go_wp2_with fail
          refine wp_region_objs (S := [ia, cb]) [.is (.pointer (some ⟨a, 0, none⟩)), .is (.slice (some ⟨b0, o, none⟩) l.length acap), .is (.int .i64 k), .is (.pointer (some ⟨b0, o + k * 4, none⟩)), .is (.pointer (some ⟨b0, o + k * 4 + 1, none⟩)), .is (.int .i64 inp), .is (.slice (some ⟨b0, o, none⟩) l.length acap), .is (.int .i64 k), .is (.pointer (some ⟨b0, o + k * 4, none⟩)), .is (.pointer (some ⟨b0, o + k * 4 + 3, none⟩)), .is (.int .i64 tk), .is (.int .i64 E), .is (.pointer (some ⟨r, 0, none⟩)), .is (.slice (some ⟨b0, o, none⟩) l.length acap), .is (.int .i64 k), .is (.pointer (some ⟨b0, o + k * 4, none⟩)), .is (.pointer (some ⟨b0, o + k * 4 + 1, none⟩)), .is (.int .i64 inp), .is (.slice (some ⟨b0, o, none⟩) l.length acap), .is (.int .i64 k), .is (.pointer (some ⟨b0, o + k * 4, none⟩)), .is (.pointer (some ⟨b0, o + k * 4 + 3, none⟩)), .is (.int .i64 tk), .is (.int .i64 E), .is (.bool false)] (relP S a ia r cb hb cc hc 11 23 X Y) [11, 23] (by kernel_rfl) (by kernel_rfl) (by kernel_rfl) (fun _ _ _ hj hx => relP_ext hj hx) relP_keys ⟨hAL.out, hRL.out⟩ ?_ ?_
          · refine ⟨?_, ?_, ?_, ?_, ?_, ?_, ?_, ?_, ?_, ?_, ?_, ?_, ?_, ?_, ?_, ?_, ?_, ?_, ?_, ?_, ?_, ?_, ?_, ?_, ?_, trivial⟩
            · intro b w' Lf h
              have f5 : b.tmps.getD 5 undef = (.pointer (some ⟨a, 0, none⟩)) := h.else_ 5 (of_decide_eq_true (by kernel_rfl))
              exact .inl ⟨by decide, good_move (wanted_none rfl) rfl f5⟩
            · intro b w' Lf h
              have f1 : b.tmps.getD 1 undef = (.slice (some ⟨b0, o, none⟩) l.length acap) := h.else_ 1 (of_decide_eq_true (by kernel_rfl))
              exact .inl ⟨by decide, good_move (wanted_none rfl) rfl f1⟩
            · intro b w' Lf h
              have f8 : b.tmps.getD 8 undef = (.int .i64 k) := h.else_ 8 (of_decide_eq_true (by kernel_rfl))
              exact .inl ⟨by decide, good_move (wanted_none rfl) rfl f8⟩
            · intro b w' Lf h
              have f98 : b.tmps.getD 98 undef = (.slice (some ⟨b0, o, none⟩) l.length acap) := h.dep 1 _ 98 (by kernel_rfl) rfl rfl
              have f99 : b.tmps.getD 99 undef = (.int .i64 k) := h.dep 2 _ 99 (by kernel_rfl) rfl rfl
              exact .inl ⟨by decide, good_index (wanted_none rfl) rfl f98 f99 (by simp [go_sem, hkI]) rfl⟩
            · intro b w' Lf h
              have f100 : b.tmps.getD 100 undef = (.pointer (some ⟨b0, o + k * 4, none⟩)) := h.dep 3 _ 100 (by kernel_rfl) rfl rfl
              exact .inl ⟨by decide, good_field (wanted_none rfl) rfl f100 (by simp [go_sem]) rfl⟩
            · intro b w' Lf h
              have f101 : b.tmps.getD 101 undef = (.pointer (some ⟨b0, o + k * 4 + 1, none⟩)) := h.dep 4 _ 101 (by kernel_rfl) rfl rfl
              have c := cell_fr h.ext k1 hb0n.out
              exact .inl ⟨by decide, good_load (wanted_none rfl) rfl f101 (by simp [go_sem, c]) rfl⟩
            · intro b w' Lf h
              have f1 : b.tmps.getD 1 undef = (.slice (some ⟨b0, o, none⟩) l.length acap) := h.else_ 1 (of_decide_eq_true (by kernel_rfl))
              exact .inl ⟨by decide, good_move (wanted_none rfl) rfl f1⟩
            · intro b w' Lf h
              have f8 : b.tmps.getD 8 undef = (.int .i64 k) := h.else_ 8 (of_decide_eq_true (by kernel_rfl))
              exact .inl ⟨by decide, good_move (wanted_none rfl) rfl f8⟩
            · intro b w' Lf h
              have f103 : b.tmps.getD 103 undef = (.slice (some ⟨b0, o, none⟩) l.length acap) := h.dep 6 _ 103 (by kernel_rfl) rfl rfl
              have f104 : b.tmps.getD 104 undef = (.int .i64 k) := h.dep 7 _ 104 (by kernel_rfl) rfl rfl
              exact .inl ⟨by decide, good_index (wanted_none rfl) rfl f103 f104 (by simp [go_sem, hkI]) rfl⟩
            · intro b w' Lf h
              have f105 : b.tmps.getD 105 undef = (.pointer (some ⟨b0, o + k * 4, none⟩)) := h.dep 8 _ 105 (by kernel_rfl) rfl rfl
              exact .inl ⟨by decide, good_field (wanted_none rfl) rfl f105 (by simp [go_sem]) rfl⟩
            · intro b w' Lf h
              have f106 : b.tmps.getD 106 undef = (.pointer (some ⟨b0, o + k * 4 + 3, none⟩)) := h.dep 9 _ 106 (by kernel_rfl) rfl rfl
              have c := cell_fr h.ext k3 hb0n.out
              exact .inl ⟨by decide, good_load (wanted_none rfl) rfl f106 (by simp [go_sem, c]) rfl⟩
            · intro b w' Lf h
              have f97 : b.tmps.getD 97 undef = (.pointer (some ⟨a, 0, none⟩)) := h.dep 0 _ 97 (by kernel_rfl) rfl rfl
              have g97 : b.tmps[97]?.getD undef = (.pointer (some ⟨a, 0, none⟩)) := by rw [← Array.getD_eq_getD_getElem?]; exact f97
              have f102 : b.tmps.getD 102 undef = (.int .i64 inp) := h.dep 5 _ 102 (by kernel_rfl) rfl rfl
              have g102 : b.tmps[102]?.getD undef = (.int .i64 inp) := by rw [← Array.getD_eq_getD_getElem?]; exact f102
              have f107 : b.tmps.getD 107 undef = (.int .i64 tk) := h.dep 10 _ 107 (by kernel_rfl) rfl rfl
              have g107 : b.tmps[107]?.getD undef = (.int .i64 tk) := by rw [← Array.getD_eq_getD_getElem?]; exact f107
              refine .inr (goodM_call (wanted_none rfl) rfl (enters Tryz.func14 (by kernel_rfl) rfl) ?_)
              rw [show (#[.tmp 97, .tmp 102, .tmp 107] : Array Operand).map b.eval = #[(.pointer (some ⟨a, 0, none⟩)), (.int .i64 inp), (.int .i64 tk)] by simp [Act.eval, g97, g102, g107]]
              exact (hP1.out w' h.ext (relP_fst h.obj h.fresh)).mono fun e w1 ⟨he, hA, hF⟩ => ⟨_, he, rfl, hF.more (fun q _ hq => hT1.out q hq), relP_one (by decide) h.obj hA hF hTS1.out hTc.out hTh.out⟩
            · intro b w' Lf h
              have f7 : b.tmps.getD 7 undef = (.pointer (some ⟨r, 0, none⟩)) := h.else_ 7 (of_decide_eq_true (by kernel_rfl))
              exact .inl ⟨by decide, good_move (wanted_none rfl) rfl f7⟩
            · intro b w' Lf h
              have f1 : b.tmps.getD 1 undef = (.slice (some ⟨b0, o, none⟩) l.length acap) := h.else_ 1 (of_decide_eq_true (by kernel_rfl))
              exact .inl ⟨by decide, good_move (wanted_none rfl) rfl f1⟩
            · intro b w' Lf h
              have f8 : b.tmps.getD 8 undef = (.int .i64 k) := h.else_ 8 (of_decide_eq_true (by kernel_rfl))
              exact .inl ⟨by decide, good_move (wanted_none rfl) rfl f8⟩
            · intro b w' Lf h
              have f110 : b.tmps.getD 110 undef = (.slice (some ⟨b0, o, none⟩) l.length acap) := h.dep 13 _ 110 (by kernel_rfl) rfl rfl
              have f111 : b.tmps.getD 111 undef = (.int .i64 k) := h.dep 14 _ 111 (by kernel_rfl) rfl rfl
              exact .inl ⟨by decide, good_index (wanted_none rfl) rfl f110 f111 (by simp [go_sem, hkI]) rfl⟩
            · intro b w' Lf h
              have f112 : b.tmps.getD 112 undef = (.pointer (some ⟨b0, o + k * 4, none⟩)) := h.dep 15 _ 112 (by kernel_rfl) rfl rfl
              exact .inl ⟨by decide, good_field (wanted_none rfl) rfl f112 (by simp [go_sem]) rfl⟩
            · intro b w' Lf h
              have f113 : b.tmps.getD 113 undef = (.pointer (some ⟨b0, o + k * 4 + 1, none⟩)) := h.dep 16 _ 113 (by kernel_rfl) rfl rfl
              have c := cell_fr h.ext k1 hb0n.out
              exact .inl ⟨by decide, good_load (wanted_none rfl) rfl f113 (by simp [go_sem, c]) rfl⟩
            · intro b w' Lf h
              have f1 : b.tmps.getD 1 undef = (.slice (some ⟨b0, o, none⟩) l.length acap) := h.else_ 1 (of_decide_eq_true (by kernel_rfl))
              exact .inl ⟨by decide, good_move (wanted_none rfl) rfl f1⟩
            · intro b w' Lf h
              have f8 : b.tmps.getD 8 undef = (.int .i64 k) := h.else_ 8 (of_decide_eq_true (by kernel_rfl))
              exact .inl ⟨by decide, good_move (wanted_none rfl) rfl f8⟩
            · intro b w' Lf h
              have f115 : b.tmps.getD 115 undef = (.slice (some ⟨b0, o, none⟩) l.length acap) := h.dep 18 _ 115 (by kernel_rfl) rfl rfl
              have f116 : b.tmps.getD 116 undef = (.int .i64 k) := h.dep 19 _ 116 (by kernel_rfl) rfl rfl
              exact .inl ⟨by decide, good_index (wanted_none rfl) rfl f115 f116 (by simp [go_sem, hkI]) rfl⟩
            · intro b w' Lf h
              have f117 : b.tmps.getD 117 undef = (.pointer (some ⟨b0, o + k * 4, none⟩)) := h.dep 20 _ 117 (by kernel_rfl) rfl rfl
              exact .inl ⟨by decide, good_field (wanted_none rfl) rfl f117 (by simp [go_sem]) rfl⟩
            · intro b w' Lf h
              have f118 : b.tmps.getD 118 undef = (.pointer (some ⟨b0, o + k * 4 + 3, none⟩)) := h.dep 21 _ 118 (by kernel_rfl) rfl rfl
              have c := cell_fr h.ext k3 hb0n.out
              exact .inl ⟨by decide, good_load (wanted_none rfl) rfl f118 (by simp [go_sem, c]) rfl⟩
            · intro b w' Lf h
              have f109 : b.tmps.getD 109 undef = (.pointer (some ⟨r, 0, none⟩)) := h.dep 12 _ 109 (by kernel_rfl) rfl rfl
              have g109 : b.tmps[109]?.getD undef = (.pointer (some ⟨r, 0, none⟩)) := by rw [← Array.getD_eq_getD_getElem?]; exact f109
              have f114 : b.tmps.getD 114 undef = (.int .i64 inp) := h.dep 17 _ 114 (by kernel_rfl) rfl rfl
              have g114 : b.tmps[114]?.getD undef = (.int .i64 inp) := by rw [← Array.getD_eq_getD_getElem?]; exact f114
              have f119 : b.tmps.getD 119 undef = (.int .i64 tk) := h.dep 22 _ 119 (by kernel_rfl) rfl rfl
              have g119 : b.tmps[119]?.getD undef = (.int .i64 tk) := by rw [← Array.getD_eq_getD_getElem?]; exact f119
              refine .inr (goodM_call (wanted_none rfl) rfl (enters Tryz.func15 (by kernel_rfl) rfl) ?_)
              rw [show (#[.tmp 109, .tmp 114, .tmp 119] : Array Operand).map b.eval = #[(.pointer (some ⟨r, 0, none⟩)), (.int .i64 inp), (.int .i64 tk)] by simp [Act.eval, g109, g114, g119]]
              exact (hP2.out w' h.ext (relP_snd h.obj h.fresh)).mono fun e w1 ⟨he, hR, hF⟩ => ⟨_, he, rfl, hF.more (fun q _ hq => hT2.out q hq), relP_two (by decide) h.obj hR hF hTS2.out hTi.out⟩
            · intro b w' Lf h
              have f108 : b.tmps.getD 108 undef = (.int .i64 E) := h.dep 11 _ 108 (by kernel_rfl) rfl rfl
              have f120 : b.tmps.getD 120 undef = (.int .i64 E) := h.dep 23 _ 120 (by kernel_rfl) rfl rfl
              exact .inl ⟨by decide, good_bin (wanted_none rfl) rfl f108 f120 (by exact guard_int _) (by exact run_neq_int Tryz.underlying24 E _) rfl⟩
          intro b1 wz hF7 hd7 hz7 he7 hf7 hJ7
          obtain ⟨hA7, hR7⟩ := relP_all (hJ7 (fun j => decide (j < 25)) (by intro j hj; simpa using hj) (by intro j hj; simpa using hj)) rfl rfl
          have f121 : b1.tmps.getD 121 undef = .bool false := hf7 24 _ 121 rfl rfl
          clear hJ7 hf7
          have e := frame_puts hd7 hz7 he7
          obtain ⟨x, hx⟩ : ∃ x : Nat → Value, ∀ d, b1.tmps.getD d undef = x d := ⟨_, fun _ => rfl⟩
          rw [hx] at f121
          rw [show dstsOf _ = [97, 98, 99, 100, 101, 102, 103, 104, 105, 106, 107, 108, 109, 110, 111, 112, 113, 114, 115, 116, 117, 118, 119, 120, 121] from rfl] at e
          simp only [List.foldl, hx, Act.put, List.setIfInBounds_toArray, List.set_cons_succ, List.set_cons_zero] at e
          rw [f121] at e
          clear hx f121 he7 hz7 hd7
          subst e
          have hAz := hide hA7
          have hRz := hide hR7
          have hXz := hide (ext_fr hX.out hF7 hTlow.out)
          clear hA7 hR7 hF7
          have hq1 := hide (fun w' (hx : Ext wz w') => lClock_c S a ia Y (by omega) w' (hAz.out.ext hx))
          have hq2 := hide (fun w' (hx : Ext wz w') => mClock_c S r cb hb cc hc Y (by omega) (by omega) hYI.out w' (hRz.out.ext hx))
          have hq3 := hide (fun w' (hx : Ext wz w') => lHeld_c S a ia Y (by omega) hY9 w' (hAz.out.ext hx))
          have hq4 := hide (fun w' (hx : Ext wz w') => mHeld_c S r cb hb cc hc Y (by omega) hY9 w' (hRz.out.ext hx))
          obtain ⟨zc, hzc⟩ : ∃ z, z = clkX Y := ⟨_, rfl⟩
          obtain ⟨zh, hzh⟩ : ∃ z, z = heldN Y := ⟨_, rfl⟩
          rw [← hzc] at hq1 hq2
          rw [← hzh] at hq3 hq4
          have bz1 : (zc != zc) = false := by simp
          have bz2 : ((zh : Int) != (zh : Int)) = false := by simp
          have hYh := hide (And.intro hYl hYN)
          replace hzc := hide hzc
          replace hzh := hide hzh
          clear hYl hYN hY9
          go_wp2_with (first | (go_at_call 7; (with_reducible refine seq_gw (hq1.out _ (Ext.refl _)) ?_); intro g1) | (go_at_call 18; (with_reducible refine seq_gw' (hq2.out _ g1.grown) ?_); intro g2) | (go_at_call 8; (with_reducible refine seq_gw' (hq3.out _ g2.grown) ?_); intro g3) | (go_at_call 19; (with_reducible refine seq_gw' (hq4.out _ g3.grown) ?_); intro g4))
          go_roundg (l.length - (k + 1))
          case measure => omega
          case rel => exact ⟨k + 1, Y, by go_num, by omega, hYh.out.1, hYI, hYh.out.2, hAz.out.ext g4.grown, hRz.out.ext g4.grown, hXz.out.trans g4.grown⟩
        · have b0f : (kd == 0) = false := by simp [e0]
          have b1f : (kd == 1) = false := by simp [e1]
          have hsub2 := hide (show ∀ q, q ∈ [hb] → q ∈ S by intro q hq; rw [List.mem_singleton.1 hq]; exact hmem.out.2.2)
          have hlow2 := hide (show ∀ b, b ∈ [hb] → w.heap.size ≤ b from fun b hb' => hlow.out b (hsub2.out b hb'))
          have hTi := hide (show ia ∉ [hb] by simp; exact hne.out.2)
          obtain ⟨Y, hY⟩ : ∃ Y, Y = openX (clkX X) X := ⟨_, rfl⟩
          have hYl : Y.length = m := by rw [hY, open_len]; exact hXl
          have hYI := hide (show InvX Y by rw [hY]; exact open_inv hXI.out _)
          have hYN : heldN Y ≤ eN (l.take (k + 1)) := by have := held_open (clkX X) X; rw [hY]; omega
          have hY9 : heldN Y ≤ 1000000000 := by omega
          replace e0 := hide e0
          replace e1 := hide e1
          replace hY := hide hY
          have hXN2 := hide hXN
          go_wp2_with (first | (go_at_call 9; (refine (lRelease_c S a ia X (by omega) (fun p hp => by have := held_each hp; omega) w0 hAL.out (hSz.out _ (Nat.le_refl _))).mono ?_; rintro ee w3 ⟨v1, H1, rfl, hH1, hM1, hA3, hF3⟩; obtain ⟨A1, c1, q1, -⟩ := mt_form hM1; subst q1; replace hM1 := hide hM1; have hRL3 := (hRL.out).fr hF3 hsub1.out hTc.out hTh.out; have hX3 := hide (ext_fr (hX.out) hF3 hlow1.out); replace hA3 := hide hA3)) | (go_at_call 17; (refine (mRelease_c S r cb hb cc hc X (by omega) (by omega) hXI.out (fun p hp => by have := held_each hp; omega) w3 hRL3 (hSz.out _ (Nat.le_trans (Nat.le_refl _) hF3.size))).mono ?_; rintro ee w4 ⟨v2, H2, rfl, hH2, hM2, hR4, hF4⟩; obtain ⟨A2, c2, q2, -⟩ := mt_form hM2; subst q2; have hA4 := hide (hA3.out.fr hF4 hsub2.out hTi.out); have hM14 := hide ((hM1.out.fr hF4 hsub2.out).less (S' := []) (by simp)); have hM24 := hide (hM2.less (S' := []) (by simp)); have hX4 := hide (ext_fr hX3.out hF4 hlow2.out); replace hR4 := hide hR4; clear hF4 hM2)) | (go_at_call 16; ((with_reducible refine seq_gw (alAlike_c H1 H2 _ _ w4 hM14.out hM24.out (hH1.trans hH2.symm)) ?_); intro g8)))
          obtain ⟨wz, hwz⟩ : ∃ wz, wz = g8.val := ⟨_, rfl⟩
          have hAz := hide (show AL wz S a ia Y by rw [hwz, hY.out]; exact hA4.out.ext g8.grown)
          have hRz := hide (show RL wz S r cb hb cc hc Y by rw [hwz, hY.out]; exact hR4.out.ext g8.grown)
          have hXz := hide (show Ext w wz by rw [hwz]; exact hX4.out.trans g8.grown)
          rw [← hwz]
          clear hwz hA4 hR4 hX4 hRL3 hA3 hX3 hM1 hM14 hM24 hH1 hH2 hXl hXN hF3
          have hq1 := hide (fun w' (hx : Ext wz w') => lClock_c S a ia Y (by omega) w' (hAz.out.ext hx))
          have hq2 := hide (fun w' (hx : Ext wz w') => mClock_c S r cb hb cc hc Y (by omega) (by omega) hYI.out w' (hRz.out.ext hx))
          have hq3 := hide (fun w' (hx : Ext wz w') => lHeld_c S a ia Y (by omega) hY9 w' (hAz.out.ext hx))
          have hq4 := hide (fun w' (hx : Ext wz w') => mHeld_c S r cb hb cc hc Y (by omega) hY9 w' (hRz.out.ext hx))
          obtain ⟨zc, hzc⟩ : ∃ z, z = clkX Y := ⟨_, rfl⟩
          obtain ⟨zh, hzh⟩ : ∃ z, z = heldN Y := ⟨_, rfl⟩
          rw [← hzc] at hq1 hq2
          rw [← hzh] at hq3 hq4
          have bz1 : (zc != zc) = false := by simp
          have bz2 : ((zh : Int) != (zh : Int)) = false := by simp
          have hYh := hide (And.intro hYl hYN)
          replace hzc := hide hzc
          replace hzh := hide hzh
          clear hYl hYN hY9
          go_wp2_with (first | (go_at_call 7; (with_reducible refine seq_gw (hq1.out _ (Ext.refl _)) ?_); intro g1) | (go_at_call 18; (with_reducible refine seq_gw' (hq2.out _ g1.grown) ?_); intro g2) | (go_at_call 8; (with_reducible refine seq_gw' (hq3.out _ g2.grown) ?_); intro g3) | (go_at_call 19; (with_reducible refine seq_gw' (hq4.out _ g3.grown) ?_); intro g4))
          go_roundg (l.length - (k + 1))
          case measure => omega
          case rel => exact ⟨k + 1, Y, by go_num, by omega, hYh.out.1, hYI, hYh.out.2, hAz.out.ext g4.grown, hRz.out.ext g4.grown, hXz.out.trans g4.grown⟩
      · have hge : (l.length : Int) ≤ k := by omega
        have dk : decide ((k : Int) < l.length) = false := decide_eq_false (by omega)
        have hsub2 := hide (show ∀ q, q ∈ [hb] → q ∈ S by intro q hq; rw [List.mem_singleton.1 hq]; exact hmem.out.2.2)
        have hlow2 := hide (show ∀ b, b ∈ [hb] → w.heap.size ≤ b from fun b hb' => hlow.out b (hsub2.out b hb'))
        have hTi := hide (show ia ∉ [hb] by simp; exact hne.out.2)
        clear hat hew
        go_wp2_with (first | (go_at_call 6; first | ((with_reducible refine seq_gw' (alLive_c _) ?_); intro g0) | ((with_reducible refine seq_gw (alLive_c _) ?_); intro g0)) | (go_at_call 9; (refine (lRelease_c S a ia X (by omega) (fun p hp => by have := held_each hp; omega) g0.val (hAL.out.ext g0.grown) (hSz.out _ (g0.grown.size))).mono ?_; rintro ee w3 ⟨v1, H1, rfl, hH1, hM1, hA3, hF3⟩; obtain ⟨A1, c1, q1, -⟩ := mt_form hM1; subst q1; replace hM1 := hide hM1; have hRL3 := (hRL.out.ext g0.grown).fr hF3 hsub1.out hTc.out hTh.out; have hX3 := hide (ext_fr ((hX.out.trans g0.grown)) hF3 hlow1.out); replace hA3 := hide hA3)) | (go_at_call 17; (refine (mRelease_c S r cb hb cc hc X (by omega) (by omega) hXI.out (fun p hp => by have := held_each hp; omega) w3 hRL3 (hSz.out _ (Nat.le_trans (g0.grown.size) hF3.size))).mono ?_; rintro ee w4 ⟨v2, H2, rfl, hH2, hM2, hR4, hF4⟩; obtain ⟨A2, c2, q2, -⟩ := mt_form hM2; subst q2; have hA4 := hide (hA3.out.fr hF4 hsub2.out hTi.out); have hM14 := hide ((hM1.out.fr hF4 hsub2.out).less (S' := []) (by simp)); have hM24 := hide (hM2.less (S' := []) (by simp)); have hX4 := hide (ext_fr hX3.out hF4 hlow2.out); replace hR4 := hide hR4; clear hF4 hM2)) | (go_at_call 16; ((with_reducible refine seq_gw (alAlike_c H1 H2 _ _ w4 hM14.out hM24.out (hH1.trans hH2.symm)) ?_); intro g8)))
        go_returns
        exact ⟨by first | rfl | simp, hX4.out.trans g8.grown⟩
  · rw [decide_eq_false hs] at hSm
    clear hs hat hew
    go_enter Tryz.func3, Tryz.ntmps3
    go_wp2_with (first | (go_at_call 5; (refine hN.out.mono ?_; rintro ee w1 ⟨a, ia, rfl, ⟨ha1, ha2, hane, hoa, hoi⟩, hx1⟩; have hX1 := hide hx1; replace hoa := hide hoa; replace hoi := hide hoi; clear hx1)) | (go_at_call 10; (with_reducible refine seq_gw (hSm.out _ hX1.out) ?_); intro g1) | (go_at_call 6; first | ((with_reducible refine seq_gw' (alLive_c _) ?_); intro g0) | ((with_reducible refine seq_gw (alLive_c _) ?_); intro g0)))
    go_returns
    exact ⟨by first | rfl | simp, hX1.out.trans g0.grown⟩

theorem own : ownKnob Tryz.prog.godebug = none := by kernel_rfl
theorem laidOut : laidOutB Tryz.prog = true := by kernel_rfl
set_option maxRecDepth 100000 in
theorem lifted (os : Os) (started : os.Started) (H : Type) (enc : TypeId × Value → H) :
    ReturnsInHanded {} Tryz.checked os 3 .any (Rows.alignDoesSpec.pre6 enc Tryz.prog Tryz.f3 Rows.alignDoesRow.domain false) (Rows.alignDoesSpec.post enc Tryz.prog Tryz.f3 false true false false) := by
  refine returnsInHanded_of_change_sized (C := Tryz.checked) own started (by kernel_rfl) Tryz.func3
    (ChangeSpec.witness6 (enc := enc) (C := Tryz.checked) false ⟨#[], #[.int .i64 0, .slice none 0 0], []⟩ 8 (by kernel_rfl) (by kernel_rfl) (by kernel_rfl) (by kernel_rfl)) ?_
  intro W base args ds gs before hval0 hW hcnd hsz0 _
  have hsz : (DataW.weightsEach Tryz.prog (Tryz.f3.params.toList ++ Rows.alignDoesSpec.plain.varTypes Tryz.prog) (ds ++ gs)).all (· ≤ reachBytes) = true := hsz0
  clear hsz0
  have hval : ∀ (j : Nat) t v, Tryz.f3.params[j]? = some t → args[j]? = some v → Value.okWide Tryz.prog W .any base t v := hval0
  have hW' := hW
  obtain ⟨p, q, hA0, hV, rfl, hfz, hnd⟩ := hW
  have hA : DataW.TrodAll enc Tryz.prog W 0 (fun _ => true) true Tryz.f3.params.toList args.toList ds p := hA0
  rw [Tryz.params3] at hA hval hsz
  obtain ⟨v0, vs0, d0, ds0, p0, q0, hargs, rfl, rfl, h0, r0⟩ := trodAll_cons hA
  obtain ⟨v1, vs1, d1, ds1, p1, q1, rfl, rfl, rfl, h1, r1⟩ := trodAll_cons r0
  obtain ⟨rfl, rfl, rfl⟩ := trodAll_nil r1
  obtain rfl : args = #[v0, v1] := by cases args; simp_all
  obtain ⟨rfl, rfl⟩ := trodVars_none hV
  have k0 := h0
  have lt0 : ∀ x ∈ p0, x.block < W.heap.size := by obtain ⟨m, hm⟩ := k0; exact DataW.trod_lt m _ _ _ hm
  obtain ⟨n, rfl, _, _, wn⟩ := open_int Tryz.underlying3 (hval 0 3 v0 rfl rfl) h0
  have hn := wf_i64 wn
  have k1 := h1
  have lt1 : ∀ x ∈ p1, x.block < W.heap.size := by obtain ⟨m, hm⟩ := k1; exact DataW.trod_lt m _ _ _ hm
  obtain ⟨A1, n1, c1, rfl⟩ := okWide_slice Tryz.underlying22 (hval 1 22 v1 rfl rfl)
  have ⟨m1, hm1⟩ := h1
  obtain ⟨l, ll, hl⟩ := open_ops4 Tryz.underlying22 Tryz.underlying36 (by kernel_rfl) rfl rfl rfl rfl (by kernel_rfl) (by kernel_rfl) (by kernel_rfl) (by kernel_rfl) Tryz.underlying3 Tryz.underlying3 Tryz.underlying3 Tryz.underlying34 Tryz.underlying44 (by kernel_rfl) rfl rfl rfl (by kernel_rfl) (by kernel_rfl) (by kernel_rfl) Tryz.underlying42 Tryz.underlying3 Tryz.underlying3 Tryz.underlying53 (by kernel_rfl) rfl rfl rfl (by kernel_rfl) (by kernel_rfl) (by kernel_rfl) Tryz.underlying51 Tryz.underlying3 Tryz.underlying9 hm1
  clear hA0 hval0
  refine (walk n l _ W hl).mono fun e W' ⟨he, bel⟩ => ?_
  subst he
  exact ⟨_, rfl, _, _, _, [], _, [], hW', trodAll_mk1 (shut_bool Tryz.underlying4 _), (trodAll_cons_mk (Below.trod laidOut (by kernel_rfl) (of_decide_eq_true (by kernel_rfl)) k0 bel lt0) (trodAll_cons_mk (Below.trod laidOut (by kernel_rfl) (of_decide_eq_true (by kernel_rfl)) k1 bel lt1) trodAll_mk0)), rfl, bel.frame _, fun h => by cases h⟩

theorem over : Rows.alignDoesRow.holds Tryz.pinned (OpenSpec.ofChange Rows.alignDoesSpec) :=
  OpenClaim.holds_of_wide 3 Tryz.f3 rfl rfl rfl rfl rfl rfl rfl ⟨rfl, rfl, rfl, rfl, rfl⟩ rfl rfl rfl rfl rfl (by kernel_rfl) Tryz.func3 (by kernel_rfl)
    (of_decide_eq_true (by kernel_rfl)) (by unfold Func.isWrapper; first | (rw [if_pos (by decide +kernel)]; kernel_rfl) | (rw [if_neg (by decide +kernel)]; exact ⟨rfl, rfl⟩))
    (fun os started H enc _ => lifted os started H enc)

theorem alignDoes_holds : Rows.AlignDoesSaid := over
end Go.Proofs.YtjmoifbajjemmaaGreat.alignDoes
