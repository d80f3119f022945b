/-
  Layer 12 (bag), 12.1, 12.2, 12.3: for every script (of which those of up to 60 steps and edges count), and row: the table, the mark, the pieces and the errors are those that the document says. No condition.
-/
import Derived.Test.YtobmjcehgpmfgaaGreatBagY
import Derived.Test.YtobmjcehgpmfgaaGreatPakN
import Derived.Test.YtobmjcehgpmfgaaGreatBagDoesF
import Derived.Test.YtobmjcehgpmfgaaGreatEdgPt
import Derived.Test.YtobmjcehgpmfgaaGreatReg2
import Derived.WalkKit
import Derived.ProofKit
import Derived.OpenShut
import Derived.ShutString
import Derived.ChangeOld
import Derived.Below
import Derived.Lib.SmallJoins
import Derived.SizedLaws
import Derived.Deep.CondSized
import Derived.JoinedCond
set_option linter.unusedVariables false
set_option linter.unusedSimpArgs false
namespace Go.Proofs.YtobmjcehgpmfgaaGreat.bagDoes
open Go.ChangeShapes Go.WideShapes Go.ChangeAt Go.RowKit Go.Joins
open Go.ChangeMaps (open_string shut_string)
attribute [local go_sem] GW.cell GW.frozen In.eq_true In.le_true In.ne In.ne' In.ne_add In.ne_add' In.lt_add Upto.le_true Upto.le_add Upto.lt_add

theorem jmpAt_bad {T : List Fe} {X : List Ed} (h : BagX T X) {q : List Vl} (hq : mayR q = false) : jmpAt T q = [] := by
  unfold jmpAt getM
  have hn : T.find? (fun p => (fent rowB p).1.sameKey (.string (rowB q))) = none := by
    rw [List.find?_eq_none]
    intro p hp
    have hr := (h.row hp).1
    have e1 : (fent rowB p).1.sameKey (.string (rowB q)) = decide (rowB p.2.2.1 = rowB q) := same_str _ _
    have e2 : rowB q = [] := by unfold rowB; rw [hq]; rfl
    rw [e1, e2]
    unfold rowB
    rw [if_pos hr]
    simp
  rw [hn]
theorem cell_frB {w w' : World} {S : List Nat} {b o : Nat} {u : Value} (k : Fr S w w') (hc : w.cell? ⟨b, o, none⟩ = some u) (hn : b ∉ S) : w'.cell? ⟨b, o, none⟩ = some u :=
  (World.cell?_of_block (a := ⟨b, o, none⟩) (k.block b (block_lt_of_cell hc) hn)).trans hc
def edsF (X : List Ed) : Fact := .st (fun u w => ∃ M, eds M = X ∧ Ew w [] u M) (fun _ _ _ h k => by obtain ⟨M, h1, h2⟩ := h; exact ⟨M, h1, h2.ext k⟩)
theorem want0 (W w' : World) (h : Ext (W.alloc (.cells #[] 133)) w') : Jw w' [] (.slice (some ⟨W.heap.size, 0, none⟩) 0 0) [] :=
  Sl.ext (Sl.own (World.ownsRow_lit (base := W.heap.size) (e := 133) (size := 2) W #[] 0 (Nat.le_refl _) (by decide) rfl) (by simp)) h
set_option maxHeartbeats 8000000 in
set_option maxRecDepth 100000 in
theorem walk (l : List Op3b) (q : List Vl) (hqi : ∀ x ∈ q, inI x.2.1) (v u : Value) (w : World) (h : Ozb w v l) (hq : Rw w [] u q) : Calls Tryz.prog 3 #[v, u] w fun e w' => e = .returned (.bool true) ∧ Ext w w' := by
  have hSm := hide (bagSmall_c l v w h)
  have hew := hide h.2
  have hqw := hide hq
  obtain ⟨VA, acap, rfl, hlc, hlm, hat⟩ := ozb_form h
  obtain ⟨QA, qcap, rfl⟩ := rw_val hq
  unfold maxLen at hlm
  replace hat := hide hat
  clear h hq
  by_cases hs : szB l ≤ 60
  · rw [decide_eq_true hs] at hSm
    obtain ⟨hl60, he60⟩ := small_eB hs
    clear hs
    go_enter Tryz.func3, Tryz.ntmps3
    go_wp2_with (first | (go_at_call 13; first | ((with_reducible refine seq_gw' hSm.out ?_); intro g1) | ((with_reducible refine seq_gw hSm.out ?_); intro g1)) | (go_at_call 15; (refine (bagNew_c rowB _).mono ?_; rintro ee w1 ⟨B, mb, rfl, ⟨hB, hmb, hBm, hbg⟩, hX1⟩; replace hX1 := hide hX1; replace hbg := hide hbg)) | (go_at_call 16; (refine (refBagNew_c _).mono ?_; rintro ee w2 ⟨r, rfl, ⟨hr, hrb⟩, hX2⟩; replace hX2 := hide hX2; replace hrb := hide hrb)))
    have hz1 := g1.grown.size
    have hz2 := hX1.out.size
    have hBl := hbg.out.1.lt
    have hml := hbg.out.2.1.lt
    have hX0 := hide (g1.grown.trans (hX1.out.trans hX2.out))
    have hCB0 := hide (show CB w2 B mb (-1) [] (0 * 4096) from ⟨[], 0, Bg.ext ⟨hbg.out.1, hbg.out.2.1, by simp⟩ hX2.out, BagX.nil, Nat.zero_le _⟩)
    have hRB0 := hide (show RB w2 r (-1) [] from ⟨_, [], hrb.out, rfl⟩)
    have hBr := hide (show B ≠ r by omega)
    have hmr := hide (show mb ≠ r by omega)
    have hBm' := hide hBm
    have hlow := hide (show ∀ b, b ∈ [B, mb, r] → w.heap.size ≤ b by simp only [List.mem_cons, List.not_mem_nil, or_false]; omega)
    clear hz1 hz2 hBl hml hbg hrb hX1 hX2 hB hmb hr hBm
    go_loopg [7] l.length (fun gh i wr => ∃ (k : Nat) (mk : Int) (X : List Ed), i = .int .i64 k ∧ k + gh = l.length ∧ -1 ≤ mk ∧ X.length ≤ eB (l.take k) ∧ Hid (CB wr B mb mk X (k * 4096)) ∧ Hid (RB wr r mk X) ∧ Hid (Ext w wr))
    case atStart => exact ⟨0, -1, [], rfl, by omega, Int.le_refl _, Nat.zero_le _, hCB0, hRB0, hX0⟩
    case round =>
      clear hCB0 hRB0 hX0
      obtain ⟨k, mk, X, rfl, hk, hmk, hXl, hCB, hRB, hX⟩ := hrel
      obtain ⟨w0, hw0⟩ : ∃ w0, w0 = wr := ⟨_, rfl⟩
      subst hw0
      have hcl := hCB.out.lt
      have hrl := hRB.out.lt
      haveI : In B w0 := ⟨hcl.1⟩
      haveI : In r w0 := ⟨hrl⟩
      have hpre := eB_pre l k
      have hmay := hide hCB.out.may
      by_cases hkl : k < l.length
      · have hkI : (k : Int) < l.length := by omega
        have dk : decide ((k : Int) < l.length) = true := decide_eq_true hkI
        obtain ⟨x, hx⟩ : ∃ x, l[k]? = some x := ⟨_, List.getElem?_eq_getElem hkl⟩
        obtain ⟨b0, o, rfl, hbl, c0, c1, c2⟩ := hat.out k x hx
        have hep := eB_pre l (k + 1)
        have hes := eB_snoc hx
        have hMw := (hew.out x (List.mem_of_getElem? hx)).1
        have hMi := hide (hew.out x (List.mem_of_getElem? hx)).2
        have k0 := cell_later hX.out c0
        have k1 := cell_later hX.out c1
        have k2 := cell_later hX.out c2
        have hbr : b0 < w0.heap.size := block_lt_of_cell k0
        haveI : In b0 w0 := ⟨hbr⟩
        have hb0n := hide (show b0 ∉ [B, mb, r] from fun m => by have := hlow.out b0 m; omega)
        have hTlow := hlow
        have hT1 := hide (show ∀ q, q ∈ [B, mb] → q ∈ [B, mb, r] by intro q hq; simp only [List.mem_cons, List.not_mem_nil, or_false] at hq ⊢; rcases hq with rfl | rfl <;> simp)
        have hT2 := hide (show ∀ q, q ∈ [r] → q ∈ [B, mb, r] by intro q hq; simp only [List.mem_cons, List.not_mem_nil, or_false] at hq ⊢; simp [hq])
        obtain ⟨⟨kd, tk⟩, mv, M⟩ := x
        simp only at k0 k1 k2 hMw hes hMi
        obtain ⟨MA, mcap, rfl⟩ := ew_oneB hMw
        have hMl : (eds M).length = M.length := by simp [eds]
        clear c0 c1 c2 hat hew hx
        by_cases e0 : kd = 0
        · subst e0
          obtain ⟨E, hE⟩ : ∃ E, E = baE X mk (eds M) := ⟨_, rfl⟩
          obtain ⟨Y, hY⟩ : ∃ Y, Y = aX mk X (eds M) := ⟨_, rfl⟩
          have hYl := hide (show Y.length ≤ eB (l.take (k + 1)) by have := aX_len (l := eds M) (mk := mk) hmay.out; rw [hY]; omega)
          have hY60 : Y.length ≤ 60 := by have := hYl.out; omega
          have hMT := hide (fun w' (hF : Fr [B, mb, r] w0 w') => ((Ew.ext (⟨Sl.new hMw.1 (fun b hb => .inr (hlow.out b hb)), fun p hp => Sl.new (hMw.2 p hp) (fun b hb => .inr (hlow.out b hb))⟩ : Ew w [B, mb, r] _ M) hX.out).fr hF (fun _ hb => hb)).less (S' := []) (by simp))
          have hP1 := hide (fun w' (hF : Fr [B, mb, r] w0 w') (hA : CB w' B mb mk X (k * 4096)) => cAdd_c M B mb (k * 4096) mk X (.slice MA M.length mcap) w' hA (hMT.out w' hF) hMi.out hBm'.out (by omega))
          have hP2 := hide (fun w' (hF : Fr [B, mb, r] w0 w') (hR : RB w' r mk X) => rAdd_c M r mk X (.slice MA M.length mcap) w' hR (hMT.out w' hF) hmay.out (by omega))
          rw [← hE, ← hY] at hP1 hP2
          have hmk' := hide hmk
          replace hE := hide hE
          replace hY := hide hY
          clear hXl hes hep hpre hMl
          go_wp2_with fail
          refine wp_region_objs (S := [B, mb, r]) [.is (.pointer (some ⟨B, 0, none⟩)), .is (.slice (some ⟨b0, o, none⟩) l.length acap), .is (.int .i64 k), .is (.pointer (some ⟨b0, o + k * 3, none⟩)), .is (.pointer (some ⟨b0, o + k * 3 + 1, none⟩)), .is (.slice MA M.length mcap), .is (.int .i64 E), .is (.pointer (some ⟨r, 0, none⟩)), .is (.slice (some ⟨b0, o, none⟩) l.length acap), .is (.int .i64 k), .is (.pointer (some ⟨b0, o + k * 3, none⟩)), .is (.pointer (some ⟨b0, o + k * 3 + 1, none⟩)), .is (.slice MA M.length mcap), .is (.int .i64 E), .is (.bool false)] (relB B mb r 6 13 (k * 4096) mk mk X Y) [6, 13] (by kernel_rfl) (by kernel_rfl) (by kernel_rfl) (fun _ _ _ hj hx => relB_ext hj hx) relB_keys ⟨hCB.out, hRB.out⟩ ?_ ?_
          · refine ⟨?_, ?_, ?_, ?_, ?_, ?_, ?_, ?_, ?_, ?_, ?_, ?_, ?_, ?_, ?_, trivial⟩
            · intro b w' Lf h
              have f5 : b.tmps.getD 5 undef = (.pointer (some ⟨B, 0, none⟩)) := h.else_ 5 (of_decide_eq_true (by kernel_rfl))
              exact .inl ⟨by decide, good_move (wanted_none rfl) rfl f5⟩
            · intro b w' Lf h
              have f0 : b.tmps.getD 0 undef = (.slice (some ⟨b0, o, none⟩) l.length acap) := h.else_ 0 (of_decide_eq_true (by kernel_rfl))
              exact .inl ⟨by decide, good_move (wanted_none rfl) rfl f0⟩
            · intro b w' Lf h
              have f7 : b.tmps.getD 7 undef = (.int .i64 k) := h.else_ 7 (of_decide_eq_true (by kernel_rfl))
              exact .inl ⟨by decide, good_move (wanted_none rfl) rfl f7⟩
            · intro b w' Lf h
              have f32 : b.tmps.getD 32 undef = (.slice (some ⟨b0, o, none⟩) l.length acap) := h.dep 1 _ 32 (by kernel_rfl) rfl rfl
              have f33 : b.tmps.getD 33 undef = (.int .i64 k) := h.dep 2 _ 33 (by kernel_rfl) rfl rfl
              exact .inl ⟨by decide, good_index (wanted_none rfl) rfl f32 f33 (by simp [go_sem, hkI]) rfl⟩
            · intro b w' Lf h
              have f34 : b.tmps.getD 34 undef = (.pointer (some ⟨b0, o + k * 3, none⟩)) := h.dep 3 _ 34 (by kernel_rfl) rfl rfl
              exact .inl ⟨by decide, good_field (wanted_none rfl) rfl f34 (by simp [go_sem]) rfl⟩
            · intro b w' Lf h
              have f35 : b.tmps.getD 35 undef = (.pointer (some ⟨b0, o + k * 3 + 1, none⟩)) := h.dep 4 _ 35 (by kernel_rfl) rfl rfl
              have c := cell_frB h.ext k1 hb0n.out
              exact .inl ⟨by decide, good_load (wanted_none rfl) rfl f35 (by simp [go_sem, c]) rfl⟩
            · intro b w' Lf h
              have f31 : b.tmps.getD 31 undef = (.pointer (some ⟨B, 0, none⟩)) := h.dep 0 _ 31 (by kernel_rfl) rfl rfl
              have g31 : b.tmps[31]?.getD undef = (.pointer (some ⟨B, 0, none⟩)) := by rw [← Array.getD_eq_getD_getElem?]; exact f31
              have f36 : b.tmps.getD 36 undef = (.slice MA M.length mcap) := h.dep 5 _ 36 (by kernel_rfl) rfl rfl
              have g36 : b.tmps[36]?.getD undef = (.slice MA M.length mcap) := by rw [← Array.getD_eq_getD_getElem?]; exact f36
              refine .inr (goodM_call (wanted_none rfl) rfl (enters Tryz.func17 (by kernel_rfl) rfl) ?_)
              rw [show (#[.tmp 31, .tmp 36] : Array Operand).map b.eval = #[(.pointer (some ⟨B, 0, none⟩)), (.slice MA M.length mcap)] by simp [Act.eval, g31, g36]]
              exact (hP1.out w' h.ext (relB_fst h.obj h.fresh)).mono fun e w1 ⟨he, hA, hF⟩ => ⟨_, he, rfl, hF.more (fun q _ hq => hT1.out q hq), relB_one (by decide) h.obj hA hF hBr.out hmr.out⟩
            · intro b w' Lf h
              have f6 : b.tmps.getD 6 undef = (.pointer (some ⟨r, 0, none⟩)) := h.else_ 6 (of_decide_eq_true (by kernel_rfl))
              exact .inl ⟨by decide, good_move (wanted_none rfl) rfl f6⟩
            · intro b w' Lf h
              have f0 : b.tmps.getD 0 undef = (.slice (some ⟨b0, o, none⟩) l.length acap) := h.else_ 0 (of_decide_eq_true (by kernel_rfl))
              exact .inl ⟨by decide, good_move (wanted_none rfl) rfl f0⟩
            · intro b w' Lf h
              have f7 : b.tmps.getD 7 undef = (.int .i64 k) := h.else_ 7 (of_decide_eq_true (by kernel_rfl))
              exact .inl ⟨by decide, good_move (wanted_none rfl) rfl f7⟩
            · intro b w' Lf h
              have f39 : b.tmps.getD 39 undef = (.slice (some ⟨b0, o, none⟩) l.length acap) := h.dep 8 _ 39 (by kernel_rfl) rfl rfl
              have f40 : b.tmps.getD 40 undef = (.int .i64 k) := h.dep 9 _ 40 (by kernel_rfl) rfl rfl
              exact .inl ⟨by decide, good_index (wanted_none rfl) rfl f39 f40 (by simp [go_sem, hkI]) rfl⟩
            · intro b w' Lf h
              have f41 : b.tmps.getD 41 undef = (.pointer (some ⟨b0, o + k * 3, none⟩)) := h.dep 10 _ 41 (by kernel_rfl) rfl rfl
              exact .inl ⟨by decide, good_field (wanted_none rfl) rfl f41 (by simp [go_sem]) rfl⟩
            · intro b w' Lf h
              have f42 : b.tmps.getD 42 undef = (.pointer (some ⟨b0, o + k * 3 + 1, none⟩)) := h.dep 11 _ 42 (by kernel_rfl) rfl rfl
              have c := cell_frB h.ext k1 hb0n.out
              exact .inl ⟨by decide, good_load (wanted_none rfl) rfl f42 (by simp [go_sem, c]) rfl⟩
            · intro b w' Lf h
              have f38 : b.tmps.getD 38 undef = (.pointer (some ⟨r, 0, none⟩)) := h.dep 7 _ 38 (by kernel_rfl) rfl rfl
              have g38 : b.tmps[38]?.getD undef = (.pointer (some ⟨r, 0, none⟩)) := by rw [← Array.getD_eq_getD_getElem?]; exact f38
              have f43 : b.tmps.getD 43 undef = (.slice MA M.length mcap) := h.dep 12 _ 43 (by kernel_rfl) rfl rfl
              have g43 : b.tmps[43]?.getD undef = (.slice MA M.length mcap) := by rw [← Array.getD_eq_getD_getElem?]; exact f43
              refine .inr (goodM_call (wanted_none rfl) rfl (enters Tryz.func18 (by kernel_rfl) rfl) ?_)
              rw [show (#[.tmp 38, .tmp 43] : Array Operand).map b.eval = #[(.pointer (some ⟨r, 0, none⟩)), (.slice MA M.length mcap)] by simp [Act.eval, g38, g43]]
              exact (hP2.out w' h.ext (relB_snd h.obj h.fresh)).mono fun e w1 ⟨he, hR, hF⟩ => ⟨_, he, rfl, hF.more (fun q _ hq => hT2.out q hq), relB_two (by decide) h.obj hR hF hBr.out hmr.out⟩
            · intro b w' Lf h
              have f37 : b.tmps.getD 37 undef = (.int .i64 E) := h.dep 6 _ 37 (by kernel_rfl) rfl rfl
              have f44 : b.tmps.getD 44 undef = (.int .i64 E) := h.dep 13 _ 44 (by kernel_rfl) rfl rfl
              exact .inl ⟨by decide, good_bin (wanted_none rfl) rfl f37 f44 (by exact guard_int _) (by exact run_neq_int Tryz.underlying34 E _) rfl⟩
          intro b1 wz hF7 hd7 hz7 he7 hf7 hJ7
          obtain ⟨hA7, hR7⟩ := relB_all (hJ7 (fun j => decide (j < 15)) (by intro j hj; simpa using hj) (by intro j hj; simpa using hj)) rfl rfl
          have f45 : b1.tmps.getD 45 undef = .bool false := hf7 14 _ 45 rfl rfl
          clear hJ7 hf7
          have e := frame_puts hd7 hz7 he7
          obtain ⟨x, hx⟩ : ∃ x : Nat → Value, ∀ d, b1.tmps.getD d undef = x d := ⟨_, fun _ => rfl⟩
          rw [hx] at f45
          rw [show dstsOf _ = [31, 32, 33, 34, 35, 36, 37, 38, 39, 40, 41, 42, 43, 44, 45] from rfl] at e
          simp only [List.foldl, hx, Act.put, List.setIfInBounds_toArray, List.set_cons_succ, List.set_cons_zero] at e
          rw [f45] at e
          clear hx f45 he7 hz7 hd7
          subst e
          have hCz := hide hA7
          have hRz := hide hR7
          have hXz := hide (ext_fr hX.out hF7 hTlow.out)
          clear hA7 hR7 hF7
          obtain ⟨T1, n1, hb1, hx1, hn1⟩ := hCz.out
          obtain ⟨v2, L2, hb2, hL2⟩ := hRz.out
          obtain ⟨A2, c2, ev2, -, -, -⟩ := ew_form hb2.2.1
          obtain ⟨n2, hn2⟩ : ∃ n2, n2 = L2.length := ⟨_, rfl⟩
          rw [← hn2] at ev2
          have hbeg := begX_le hx1.may
          have hq1 := hide (fun w' (hx : Ext wz w') => bagMark_c rowB [B, mb] B mb n1 mk T1 w' (hb1.ext hx))
          have hq2 := hide (fun w' (hx : Ext wz w') => bagCount_c rowB [B, mb] B mb n1 mk T1 (by rw [begT_x hx1]; omega) w' (hb1.ext hx))
          have hq3 := hide (fun w' (hx : Ext wz w') => refBagCount_c [r] r mk v2 L2 (by rw [begE_x, hL2]; omega) w' (hb2.ext hx))
          have hq4 := hide (fun w' (hx : Ext wz w') => bagEdges_c B mb n1 mk T1 Y w' (hb1.ext hx) hx1)
          have hq5 : Hid (∀ w', Ext wz w' → ∀ (M : List Ve) (uu : Value), eds M = Y → Ew w' [] uu M → Calls Tryz.prog 24 #[uu, .slice A2 n2 c2] w' fun e w'' => e = .returned (.bool true) ∧ Ext w' w'') := fun w' hx M uu hM hE => by
            have := refEdgeSame_c hE (Ew.less (hb2.2.1.ext hx) (by simp) : Ew w' [] v2 L2)
            rw [hM, hL2, decide_eq_true rfl, ev2] at this
            exact this
          have z0 := hb2.1.cell 0 rfl
          have z1 := hide (hb2.1.cell 1 rfl)
          rw [ev2] at z0
          replace z0 := hide z0
          rw [begT_x hx1] at hq2
          rw [begE_x, hL2] at hq3
          obtain ⟨zc, hzc⟩ : ∃ z, z = begX Y := ⟨_, rfl⟩
          rw [← hzc] at hq2 hq3
          replace hzc := hide hzc
          clear hbeg hb1 hx1 hb2 hL2 ev2
          replace hn2 := hide hn2
          go_wp2_with fail
          refine wp_region_list [.is (.pointer (some ⟨B, 0, none⟩)), .is (.int .i64 mk), .is (.pointer (some ⟨r, 0, none⟩)), .is (.pointer (some ⟨r, 0, none⟩)), .is (.pointer (some ⟨r, 1, none⟩)), .is (.int .i64 mk), .is (.bool false), .is (.bool false), .is (.pointer (some ⟨B, 0, none⟩)), .is (.int .i64 zc), .is (.pointer (some ⟨r, 0, none⟩)), .is (.int .i64 zc), .is (.bool false), .is (.bool false), .is (.bool false), .is (.pointer (some ⟨B, 0, none⟩)), edsF Y, .is (.pointer (some ⟨r, 0, none⟩)), .is (.pointer (some ⟨r, 0, none⟩)), .is (.pointer (some ⟨r, 0, none⟩)), .is (.slice A2 n2 c2), .is (.bool true), .is (.bool false), .is (.bool false)] (by kernel_rfl) (by kernel_rfl) (by kernel_rfl) ?_ ?_
          · refine ⟨?_, ?_, ?_, ?_, ?_, ?_, ?_, ?_, ?_, ?_, ?_, ?_, ?_, ?_, ?_, ?_, ?_, ?_, ?_, ?_, ?_, ?_, ?_, ?_, trivial⟩
            · intro b w' h
              have f5 : b.tmps.getD 5 undef = (.pointer (some ⟨B, 0, none⟩)) := h.else_ 5 (of_decide_eq_true (by kernel_rfl))
              exact good_move (wanted_none rfl) rfl f5
            · intro b w' h
              have f61 : b.tmps.getD 61 undef = (.pointer (some ⟨B, 0, none⟩)) := h.dep 0 _ 61 (by kernel_rfl) rfl rfl
              have g61 : b.tmps[61]?.getD undef = (.pointer (some ⟨B, 0, none⟩)) := by rw [← Array.getD_eq_getD_getElem?]; exact f61
              refine good_call (wanted_none rfl) rfl (enters Tryz.func21 (by kernel_rfl) rfl) ?_
              rw [show (#[.tmp 61] : Array Operand).map b.eval = #[(.pointer (some ⟨B, 0, none⟩))] by simp [Act.eval, g61]]
              exact (hq1.out w' h.ext).mono fun e w1 ⟨he, hx⟩ => ⟨_, he, rfl, hx⟩
            · intro b w' h
              have f6 : b.tmps.getD 6 undef = (.pointer (some ⟨r, 0, none⟩)) := h.else_ 6 (of_decide_eq_true (by kernel_rfl))
              exact good_move (wanted_none rfl) rfl f6
            · intro b w' h
              have f63 : b.tmps.getD 63 undef = (.pointer (some ⟨r, 0, none⟩)) := h.dep 2 _ 63 (by kernel_rfl) rfl rfl
              exact good_nilCheck (wanted_none rfl) rfl f63 rfl
            · intro b w' h
              have f64 : b.tmps.getD 64 undef = (.pointer (some ⟨r, 0, none⟩)) := h.dep 3 _ 64 (by kernel_rfl) rfl rfl
              exact good_field (wanted_none rfl) rfl f64 (by simp [go_sem]) rfl
            · intro b w' h
              have f65 : b.tmps.getD 65 undef = (.pointer (some ⟨r, 1, none⟩)) := h.dep 4 _ 65 (by kernel_rfl) rfl rfl
              have c := cell_later h.ext z1.out
              exact good_load (wanted_none rfl) rfl f65 (by simp [go_sem, c]) rfl
            · intro b w' h
              have f62 : b.tmps.getD 62 undef = (.int .i64 mk) := h.dep 1 _ 62 (by kernel_rfl) rfl rfl
              have f66 : b.tmps.getD 66 undef = (.int .i64 mk) := h.dep 5 _ 66 (by kernel_rfl) rfl rfl
              exact good_bin (wanted_none rfl) rfl f62 f66 (by exact guard_int _) (by exact run_neq_int Tryz.underlying3 mk _) rfl
            · intro b w' h
              have f67 : b.tmps.getD 67 undef = (.bool false) := h.dep 6 _ 67 (by kernel_rfl) rfl rfl
              exact good_move (wanted_none rfl) rfl f67
            · intro b w' h
              have f68 : b.tmps.getD 68 undef = (.bool false) := h.dep 7 _ 68 (by kernel_rfl) rfl rfl
              have f5 : b.tmps.getD 5 undef = (.pointer (some ⟨B, 0, none⟩)) := h.else_ 5 (of_decide_eq_true (by kernel_rfl))
              exact good_move (wanted_yes rfl rfl f68) rfl f5
            · intro b w' h
              have f68 : b.tmps.getD 68 undef = (.bool false) := h.dep 7 _ 68 (by kernel_rfl) rfl rfl
              have f69 : b.tmps.getD 69 undef = (.pointer (some ⟨B, 0, none⟩)) := h.dep 8 _ 69 (by kernel_rfl) rfl rfl
              have g69 : b.tmps[69]?.getD undef = (.pointer (some ⟨B, 0, none⟩)) := by rw [← Array.getD_eq_getD_getElem?]; exact f69
              refine good_call (wanted_yes rfl rfl f68) rfl (enters Tryz.func22 (by kernel_rfl) rfl) ?_
              rw [show (#[.tmp 69] : Array Operand).map b.eval = #[(.pointer (some ⟨B, 0, none⟩))] by simp [Act.eval, g69]]
              exact (hq2.out w' h.ext).mono fun e w1 ⟨he, hx⟩ => ⟨_, he, rfl, hx⟩
            · intro b w' h
              have f68 : b.tmps.getD 68 undef = (.bool false) := h.dep 7 _ 68 (by kernel_rfl) rfl rfl
              have f6 : b.tmps.getD 6 undef = (.pointer (some ⟨r, 0, none⟩)) := h.else_ 6 (of_decide_eq_true (by kernel_rfl))
              exact good_move (wanted_yes rfl rfl f68) rfl f6
            · intro b w' h
              have f68 : b.tmps.getD 68 undef = (.bool false) := h.dep 7 _ 68 (by kernel_rfl) rfl rfl
              have f71 : b.tmps.getD 71 undef = (.pointer (some ⟨r, 0, none⟩)) := h.dep 10 _ 71 (by kernel_rfl) rfl rfl
              have g71 : b.tmps[71]?.getD undef = (.pointer (some ⟨r, 0, none⟩)) := by rw [← Array.getD_eq_getD_getElem?]; exact f71
              refine good_call (wanted_yes rfl rfl f68) rfl (enters Tryz.func23 (by kernel_rfl) rfl) ?_
              rw [show (#[.tmp 71] : Array Operand).map b.eval = #[(.pointer (some ⟨r, 0, none⟩))] by simp [Act.eval, g71]]
              exact (hq3.out w' h.ext).mono fun e w1 ⟨he, hx⟩ => ⟨_, he, rfl, hx⟩
            · intro b w' h
              have f68 : b.tmps.getD 68 undef = (.bool false) := h.dep 7 _ 68 (by kernel_rfl) rfl rfl
              have f70 : b.tmps.getD 70 undef = (.int .i64 zc) := h.dep 9 _ 70 (by kernel_rfl) rfl rfl
              have f72 : b.tmps.getD 72 undef = (.int .i64 zc) := h.dep 11 _ 72 (by kernel_rfl) rfl rfl
              exact good_bin (wanted_yes rfl rfl f68) rfl f70 f72 (by exact guard_int _) (by exact run_neq_int Tryz.underlying3 zc _) rfl
            · intro b w' h
              have f68 : b.tmps.getD 68 undef = (.bool false) := h.dep 7 _ 68 (by kernel_rfl) rfl rfl
              have f73 : b.tmps.getD 73 undef = (.bool false) := h.dep 12 _ 73 (by kernel_rfl) rfl rfl
              exact good_pickF (wanted_none rfl) rfl f68 f73
            · intro b w' h
              have f74 : b.tmps.getD 74 undef = (.bool false) := h.dep 13 _ 74 (by kernel_rfl) rfl rfl
              exact good_move (wanted_none rfl) rfl f74
            · intro b w' h
              have f75 : b.tmps.getD 75 undef = (.bool false) := h.dep 14 _ 75 (by kernel_rfl) rfl rfl
              have f5 : b.tmps.getD 5 undef = (.pointer (some ⟨B, 0, none⟩)) := h.else_ 5 (of_decide_eq_true (by kernel_rfl))
              exact good_move (wanted_yes rfl rfl f75) rfl f5
            · intro b w' h
              have f75 : b.tmps.getD 75 undef = (.bool false) := h.dep 14 _ 75 (by kernel_rfl) rfl rfl
              have f76 : b.tmps.getD 76 undef = (.pointer (some ⟨B, 0, none⟩)) := h.dep 15 _ 76 (by kernel_rfl) rfl rfl
              have g76 : b.tmps[76]?.getD undef = (.pointer (some ⟨B, 0, none⟩)) := by rw [← Array.getD_eq_getD_getElem?]; exact f76
              refine good_call (wanted_yes rfl rfl f75) rfl (enters Tryz.func25 (by kernel_rfl) rfl) ?_
              rw [show (#[.tmp 76] : Array Operand).map b.eval = #[(.pointer (some ⟨B, 0, none⟩))] by simp [Act.eval, g76]]
              exact (hq4.out w' h.ext).mono fun e w1 ⟨v', M, he, hM, ho, hx⟩ => ⟨_, he, ⟨M, hM, ho.ew⟩, hx⟩
            · intro b w' h
              have f75 : b.tmps.getD 75 undef = (.bool false) := h.dep 14 _ 75 (by kernel_rfl) rfl rfl
              have f6 : b.tmps.getD 6 undef = (.pointer (some ⟨r, 0, none⟩)) := h.else_ 6 (of_decide_eq_true (by kernel_rfl))
              exact good_move (wanted_yes rfl rfl f75) rfl f6
            · intro b w' h
              have f75 : b.tmps.getD 75 undef = (.bool false) := h.dep 14 _ 75 (by kernel_rfl) rfl rfl
              have f78 : b.tmps.getD 78 undef = (.pointer (some ⟨r, 0, none⟩)) := h.dep 17 _ 78 (by kernel_rfl) rfl rfl
              exact good_nilCheck (wanted_yes rfl rfl f75) rfl f78 rfl
            · intro b w' h
              have f75 : b.tmps.getD 75 undef = (.bool false) := h.dep 14 _ 75 (by kernel_rfl) rfl rfl
              have f79 : b.tmps.getD 79 undef = (.pointer (some ⟨r, 0, none⟩)) := h.dep 18 _ 79 (by kernel_rfl) rfl rfl
              exact good_field (wanted_yes rfl rfl f75) rfl f79 (by simp [go_sem]) rfl
            · intro b w' h
              have f75 : b.tmps.getD 75 undef = (.bool false) := h.dep 14 _ 75 (by kernel_rfl) rfl rfl
              have f80 : b.tmps.getD 80 undef = (.pointer (some ⟨r, 0, none⟩)) := h.dep 19 _ 80 (by kernel_rfl) rfl rfl
              have c := cell_later h.ext z0.out
              exact good_load (wanted_yes rfl rfl f75) rfl f80 (by simp [go_sem, c]) rfl
            · intro b w' h
              have f75 : b.tmps.getD 75 undef = (.bool false) := h.dep 14 _ 75 (by kernel_rfl) rfl rfl
              have f77 := h.dep 16 _ 77 (by kernel_rfl) rfl rfl
              have f81 : b.tmps.getD 81 undef = (.slice A2 n2 c2) := h.dep 20 _ 81 (by kernel_rfl) rfl rfl
              obtain ⟨M, hM, hEM⟩ := f77
              obtain ⟨UA, ucap, hu⟩ := ew_oneB hEM
              have g77 : b.tmps[77]?.getD undef = .slice UA M.length ucap := by rw [← Array.getD_eq_getD_getElem?]; exact hu
              have g81 : b.tmps[81]?.getD undef = .slice A2 n2 c2 := by rw [← Array.getD_eq_getD_getElem?]; exact f81
              refine good_call (wanted_yes rfl rfl f75) rfl (enters Tryz.func24 (by kernel_rfl) rfl) ?_
              rw [show (#[.tmp 77, .tmp 81] : Array Operand).map b.eval = #[.slice UA M.length ucap, .slice A2 n2 c2] by simp [Act.eval, g77, g81]]
              rw [hu] at hEM
              exact (hq5.out w' h.ext M _ hM hEM).mono fun e w1 ⟨he, hx⟩ => ⟨_, he, rfl, hx⟩
            · intro b w' h
              have f75 : b.tmps.getD 75 undef = (.bool false) := h.dep 14 _ 75 (by kernel_rfl) rfl rfl
              have f82 : b.tmps.getD 82 undef = (.bool true) := h.dep 21 _ 82 (by kernel_rfl) rfl rfl
              have g82 : b.tmps[82]?.getD undef = .bool true := by rw [← Array.getD_eq_getD_getElem?]; exact f82
              exact good_run (wanted_yes rfl rfl f75) (v := .bool false) (by simp [execOp, Act.eval, go_sem, g82, Sem.run_bind, Sem.run_pure, Result.andThen_ok]) rfl
            · intro b w' h
              have f75 : b.tmps.getD 75 undef = (.bool false) := h.dep 14 _ 75 (by kernel_rfl) rfl rfl
              have f83 : b.tmps.getD 83 undef = (.bool false) := h.dep 22 _ 83 (by kernel_rfl) rfl rfl
              exact good_pickF (wanted_none rfl) rfl f75 f83
          intro b wq hXq hd hz he' hf
          have f84 : b.tmps.getD 84 undef = (.bool false) := hf 23 _ 84 rfl rfl
          have e := frame_puts hd hz he'
          obtain ⟨x, hx⟩ : ∃ x : Nat → Value, ∀ d, b.tmps.getD d undef = x d := ⟨_, fun _ => rfl⟩
          rw [hx] at f84
          rw [show dstsOf _ = [61, 62, 63, 64, 65, 66, 67, 68, 69, 70, 71, 72, 73, 74, 75, 76, 77, 78, 79, 80, 81, 82, 83, 84] from rfl] at e
          simp only [List.foldl, hx, Act.put, List.setIfInBounds_toArray, List.set_cons_succ, List.set_cons_zero] at e
          rw [f84] at e
          clear hf he' hz hd hx f84
          subst e
          go_wp2_with fail
          go_roundg (l.length - (k + 1))
          case measure => omega
          case rel => exact ⟨k + 1, mk, Y, by go_num, by omega, hmk'.out, hYl.out, hide ((hCz.out.ext hXq).le (by omega)), hide (hRz.out.ext hXq), hide (hXz.out.trans hXq)⟩
        · have b0f : (kd == 0) = false := by simp [e0]
          obtain ⟨E, hE⟩ : ∃ E, E = fgE mk X tk := ⟨_, rfl⟩
          obtain ⟨Y, hY⟩ : ∃ Y, Y = fX mk X tk := ⟨_, rfl⟩
          obtain ⟨mk', hm9⟩ : ∃ mk', mk' = fM mk X tk := ⟨_, rfl⟩
          have hmk' := hide (show -1 ≤ mk' by rw [hm9]; exact fM_ge hmk)
          have hYl := hide (show Y.length ≤ eB (l.take (k + 1)) by have := fX_len (mk := mk) (t := tk) hmay.out; rw [hY]; omega)
          have hY60 : Y.length ≤ 60 := by have := hYl.out; omega
          have hX60 : X.length ≤ 1024 := by omega
          have hP1 := hide (fun w' (hF : Fr [B, mb, r] w0 w') (hA : CB w' B mb mk X (k * 4096)) => cForget_c tk B mb (k * 4096) mk X w' hA hmk hBm'.out (by omega))
          have hP2 := hide (fun w' (hF : Fr [B, mb, r] w0 w') (hR : RB w' r mk X) => rForget_c tk r mk X w' hR hX60)
          rw [← hE, ← hY, ← hm9] at hP1 hP2
          replace e0 := hide e0
          replace hE := hide hE
          replace hY := hide hY
          replace hm9 := hide hm9
          clear hXl hes hep hpre hMl hX60
          go_wp2_with fail
          refine wp_region_objs (S := [B, mb, r]) [.is (.pointer (some ⟨B, 0, none⟩)), .is (.slice (some ⟨b0, o, none⟩) l.length acap), .is (.int .i64 k), .is (.pointer (some ⟨b0, o + k * 3, none⟩)), .is (.pointer (some ⟨b0, o + k * 3 + 2, none⟩)), .is (.int .i64 tk), .is (.int .i64 E), .is (.pointer (some ⟨r, 0, none⟩)), .is (.slice (some ⟨b0, o, none⟩) l.length acap), .is (.int .i64 k), .is (.pointer (some ⟨b0, o + k * 3, none⟩)), .is (.pointer (some ⟨b0, o + k * 3 + 2, none⟩)), .is (.int .i64 tk), .is (.int .i64 E), .is (.bool false)] (relB B mb r 6 13 (k * 4096) mk mk' X Y) [6, 13] (by kernel_rfl) (by kernel_rfl) (by kernel_rfl) (fun _ _ _ hj hx => relB_ext hj hx) relB_keys ⟨hCB.out, hRB.out⟩ ?_ ?_
          · refine ⟨?_, ?_, ?_, ?_, ?_, ?_, ?_, ?_, ?_, ?_, ?_, ?_, ?_, ?_, ?_, trivial⟩
            · intro b w' Lf h
              have f5 : b.tmps.getD 5 undef = (.pointer (some ⟨B, 0, none⟩)) := h.else_ 5 (of_decide_eq_true (by kernel_rfl))
              exact .inl ⟨by decide, good_move (wanted_none rfl) rfl f5⟩
            · intro b w' Lf h
              have f0 : b.tmps.getD 0 undef = (.slice (some ⟨b0, o, none⟩) l.length acap) := h.else_ 0 (of_decide_eq_true (by kernel_rfl))
              exact .inl ⟨by decide, good_move (wanted_none rfl) rfl f0⟩
            · intro b w' Lf h
              have f7 : b.tmps.getD 7 undef = (.int .i64 k) := h.else_ 7 (of_decide_eq_true (by kernel_rfl))
              exact .inl ⟨by decide, good_move (wanted_none rfl) rfl f7⟩
            · intro b w' Lf h
              have f47 : b.tmps.getD 47 undef = (.slice (some ⟨b0, o, none⟩) l.length acap) := h.dep 1 _ 47 (by kernel_rfl) rfl rfl
              have f48 : b.tmps.getD 48 undef = (.int .i64 k) := h.dep 2 _ 48 (by kernel_rfl) rfl rfl
              exact .inl ⟨by decide, good_index (wanted_none rfl) rfl f47 f48 (by simp [go_sem, hkI]) rfl⟩
            · intro b w' Lf h
              have f49 : b.tmps.getD 49 undef = (.pointer (some ⟨b0, o + k * 3, none⟩)) := h.dep 3 _ 49 (by kernel_rfl) rfl rfl
              exact .inl ⟨by decide, good_field (wanted_none rfl) rfl f49 (by simp [go_sem]) rfl⟩
            · intro b w' Lf h
              have f50 : b.tmps.getD 50 undef = (.pointer (some ⟨b0, o + k * 3 + 2, none⟩)) := h.dep 4 _ 50 (by kernel_rfl) rfl rfl
              have c := cell_frB h.ext k2 hb0n.out
              exact .inl ⟨by decide, good_load (wanted_none rfl) rfl f50 (by simp [go_sem, c]) rfl⟩
            · intro b w' Lf h
              have f46 : b.tmps.getD 46 undef = (.pointer (some ⟨B, 0, none⟩)) := h.dep 0 _ 46 (by kernel_rfl) rfl rfl
              have g46 : b.tmps[46]?.getD undef = (.pointer (some ⟨B, 0, none⟩)) := by rw [← Array.getD_eq_getD_getElem?]; exact f46
              have f51 : b.tmps.getD 51 undef = (.int .i64 tk) := h.dep 5 _ 51 (by kernel_rfl) rfl rfl
              have g51 : b.tmps[51]?.getD undef = (.int .i64 tk) := by rw [← Array.getD_eq_getD_getElem?]; exact f51
              refine .inr (goodM_call (wanted_none rfl) rfl (enters Tryz.func19 (by kernel_rfl) rfl) ?_)
              rw [show (#[.tmp 46, .tmp 51] : Array Operand).map b.eval = #[(.pointer (some ⟨B, 0, none⟩)), (.int .i64 tk)] by simp [Act.eval, g46, g51]]
              exact (hP1.out w' h.ext (relB_fst h.obj h.fresh)).mono fun e w1 ⟨he, hA, hF⟩ => ⟨_, he, rfl, hF.more (fun q _ hq => hT1.out q hq), relB_one (by decide) h.obj hA hF hBr.out hmr.out⟩
            · intro b w' Lf h
              have f6 : b.tmps.getD 6 undef = (.pointer (some ⟨r, 0, none⟩)) := h.else_ 6 (of_decide_eq_true (by kernel_rfl))
              exact .inl ⟨by decide, good_move (wanted_none rfl) rfl f6⟩
            · intro b w' Lf h
              have f0 : b.tmps.getD 0 undef = (.slice (some ⟨b0, o, none⟩) l.length acap) := h.else_ 0 (of_decide_eq_true (by kernel_rfl))
              exact .inl ⟨by decide, good_move (wanted_none rfl) rfl f0⟩
            · intro b w' Lf h
              have f7 : b.tmps.getD 7 undef = (.int .i64 k) := h.else_ 7 (of_decide_eq_true (by kernel_rfl))
              exact .inl ⟨by decide, good_move (wanted_none rfl) rfl f7⟩
            · intro b w' Lf h
              have f54 : b.tmps.getD 54 undef = (.slice (some ⟨b0, o, none⟩) l.length acap) := h.dep 8 _ 54 (by kernel_rfl) rfl rfl
              have f55 : b.tmps.getD 55 undef = (.int .i64 k) := h.dep 9 _ 55 (by kernel_rfl) rfl rfl
              exact .inl ⟨by decide, good_index (wanted_none rfl) rfl f54 f55 (by simp [go_sem, hkI]) rfl⟩
            · intro b w' Lf h
              have f56 : b.tmps.getD 56 undef = (.pointer (some ⟨b0, o + k * 3, none⟩)) := h.dep 10 _ 56 (by kernel_rfl) rfl rfl
              exact .inl ⟨by decide, good_field (wanted_none rfl) rfl f56 (by simp [go_sem]) rfl⟩
            · intro b w' Lf h
              have f57 : b.tmps.getD 57 undef = (.pointer (some ⟨b0, o + k * 3 + 2, none⟩)) := h.dep 11 _ 57 (by kernel_rfl) rfl rfl
              have c := cell_frB h.ext k2 hb0n.out
              exact .inl ⟨by decide, good_load (wanted_none rfl) rfl f57 (by simp [go_sem, c]) rfl⟩
            · intro b w' Lf h
              have f53 : b.tmps.getD 53 undef = (.pointer (some ⟨r, 0, none⟩)) := h.dep 7 _ 53 (by kernel_rfl) rfl rfl
              have g53 : b.tmps[53]?.getD undef = (.pointer (some ⟨r, 0, none⟩)) := by rw [← Array.getD_eq_getD_getElem?]; exact f53
              have f58 : b.tmps.getD 58 undef = (.int .i64 tk) := h.dep 12 _ 58 (by kernel_rfl) rfl rfl
              have g58 : b.tmps[58]?.getD undef = (.int .i64 tk) := by rw [← Array.getD_eq_getD_getElem?]; exact f58
              refine .inr (goodM_call (wanted_none rfl) rfl (enters Tryz.func20 (by kernel_rfl) rfl) ?_)
              rw [show (#[.tmp 53, .tmp 58] : Array Operand).map b.eval = #[(.pointer (some ⟨r, 0, none⟩)), (.int .i64 tk)] by simp [Act.eval, g53, g58]]
              exact (hP2.out w' h.ext (relB_snd h.obj h.fresh)).mono fun e w1 ⟨he, hR, hF⟩ => ⟨_, he, rfl, hF.more (fun q _ hq => hT2.out q hq), relB_two (by decide) h.obj hR hF hBr.out hmr.out⟩
            · intro b w' Lf h
              have f52 : b.tmps.getD 52 undef = (.int .i64 E) := h.dep 6 _ 52 (by kernel_rfl) rfl rfl
              have f59 : b.tmps.getD 59 undef = (.int .i64 E) := h.dep 13 _ 59 (by kernel_rfl) rfl rfl
              exact .inl ⟨by decide, good_bin (wanted_none rfl) rfl f52 f59 (by exact guard_int _) (by exact run_neq_int Tryz.underlying34 E _) rfl⟩
          intro b1 wz hF7 hd7 hz7 he7 hf7 hJ7
          obtain ⟨hA7, hR7⟩ := relB_all (hJ7 (fun j => decide (j < 15)) (by intro j hj; simpa using hj) (by intro j hj; simpa using hj)) rfl rfl
          have f60 : b1.tmps.getD 60 undef = .bool false := hf7 14 _ 60 rfl rfl
          clear hJ7 hf7
          have e := frame_puts hd7 hz7 he7
          obtain ⟨x, hx⟩ : ∃ x : Nat → Value, ∀ d, b1.tmps.getD d undef = x d := ⟨_, fun _ => rfl⟩
          rw [hx] at f60
          rw [show dstsOf _ = [46, 47, 48, 49, 50, 51, 52, 53, 54, 55, 56, 57, 58, 59, 60] from rfl] at e
          simp only [List.foldl, hx, Act.put, List.setIfInBounds_toArray, List.set_cons_succ, List.set_cons_zero] at e
          rw [f60] at e
          clear hx f60 he7 hz7 hd7
          subst e
          have hCz := hide hA7
          have hRz := hide hR7
          have hXz := hide (ext_fr hX.out hF7 hTlow.out)
          clear hA7 hR7 hF7
          obtain ⟨T1, n1, hb1, hx1, hn1⟩ := hCz.out
          obtain ⟨v2, L2, hb2, hL2⟩ := hRz.out
          obtain ⟨A2, c2, ev2, -, -, -⟩ := ew_form hb2.2.1
          obtain ⟨n2, hn2⟩ : ∃ n2, n2 = L2.length := ⟨_, rfl⟩
          rw [← hn2] at ev2
          have hbeg := begX_le hx1.may
          have hq1 := hide (fun w' (hx : Ext wz w') => bagMark_c rowB [B, mb] B mb n1 mk' T1 w' (hb1.ext hx))
          have hq2 := hide (fun w' (hx : Ext wz w') => bagCount_c rowB [B, mb] B mb n1 mk' T1 (by rw [begT_x hx1]; omega) w' (hb1.ext hx))
          have hq3 := hide (fun w' (hx : Ext wz w') => refBagCount_c [r] r mk' v2 L2 (by rw [begE_x, hL2]; omega) w' (hb2.ext hx))
          have hq4 := hide (fun w' (hx : Ext wz w') => bagEdges_c B mb n1 mk' T1 Y w' (hb1.ext hx) hx1)
          have hq5 : Hid (∀ w', Ext wz w' → ∀ (M : List Ve) (uu : Value), eds M = Y → Ew w' [] uu M → Calls Tryz.prog 24 #[uu, .slice A2 n2 c2] w' fun e w'' => e = .returned (.bool true) ∧ Ext w' w'') := fun w' hx M uu hM hE => by
            have := refEdgeSame_c hE (Ew.less (hb2.2.1.ext hx) (by simp) : Ew w' [] v2 L2)
            rw [hM, hL2, decide_eq_true rfl, ev2] at this
            exact this
          have z0 := hb2.1.cell 0 rfl
          have z1 := hide (hb2.1.cell 1 rfl)
          rw [ev2] at z0
          replace z0 := hide z0
          rw [begT_x hx1] at hq2
          rw [begE_x, hL2] at hq3
          obtain ⟨zc, hzc⟩ : ∃ z, z = begX Y := ⟨_, rfl⟩
          rw [← hzc] at hq2 hq3
          replace hzc := hide hzc
          clear hbeg hb1 hx1 hb2 hL2 ev2
          replace hn2 := hide hn2
          go_wp2_with fail
          refine wp_region_list [.is (.pointer (some ⟨B, 0, none⟩)), .is (.int .i64 mk'), .is (.pointer (some ⟨r, 0, none⟩)), .is (.pointer (some ⟨r, 0, none⟩)), .is (.pointer (some ⟨r, 1, none⟩)), .is (.int .i64 mk'), .is (.bool false), .is (.bool false), .is (.pointer (some ⟨B, 0, none⟩)), .is (.int .i64 zc), .is (.pointer (some ⟨r, 0, none⟩)), .is (.int .i64 zc), .is (.bool false), .is (.bool false), .is (.bool false), .is (.pointer (some ⟨B, 0, none⟩)), edsF Y, .is (.pointer (some ⟨r, 0, none⟩)), .is (.pointer (some ⟨r, 0, none⟩)), .is (.pointer (some ⟨r, 0, none⟩)), .is (.slice A2 n2 c2), .is (.bool true), .is (.bool false), .is (.bool false)] (by kernel_rfl) (by kernel_rfl) (by kernel_rfl) ?_ ?_
          · refine ⟨?_, ?_, ?_, ?_, ?_, ?_, ?_, ?_, ?_, ?_, ?_, ?_, ?_, ?_, ?_, ?_, ?_, ?_, ?_, ?_, ?_, ?_, ?_, ?_, trivial⟩
            · intro b w' h
              have f5 : b.tmps.getD 5 undef = (.pointer (some ⟨B, 0, none⟩)) := h.else_ 5 (of_decide_eq_true (by kernel_rfl))
              exact good_move (wanted_none rfl) rfl f5
            · intro b w' h
              have f61 : b.tmps.getD 61 undef = (.pointer (some ⟨B, 0, none⟩)) := h.dep 0 _ 61 (by kernel_rfl) rfl rfl
              have g61 : b.tmps[61]?.getD undef = (.pointer (some ⟨B, 0, none⟩)) := by rw [← Array.getD_eq_getD_getElem?]; exact f61
              refine good_call (wanted_none rfl) rfl (enters Tryz.func21 (by kernel_rfl) rfl) ?_
              rw [show (#[.tmp 61] : Array Operand).map b.eval = #[(.pointer (some ⟨B, 0, none⟩))] by simp [Act.eval, g61]]
              exact (hq1.out w' h.ext).mono fun e w1 ⟨he, hx⟩ => ⟨_, he, rfl, hx⟩
            · intro b w' h
              have f6 : b.tmps.getD 6 undef = (.pointer (some ⟨r, 0, none⟩)) := h.else_ 6 (of_decide_eq_true (by kernel_rfl))
              exact good_move (wanted_none rfl) rfl f6
            · intro b w' h
              have f63 : b.tmps.getD 63 undef = (.pointer (some ⟨r, 0, none⟩)) := h.dep 2 _ 63 (by kernel_rfl) rfl rfl
              exact good_nilCheck (wanted_none rfl) rfl f63 rfl
            · intro b w' h
              have f64 : b.tmps.getD 64 undef = (.pointer (some ⟨r, 0, none⟩)) := h.dep 3 _ 64 (by kernel_rfl) rfl rfl
              exact good_field (wanted_none rfl) rfl f64 (by simp [go_sem]) rfl
            · intro b w' h
              have f65 : b.tmps.getD 65 undef = (.pointer (some ⟨r, 1, none⟩)) := h.dep 4 _ 65 (by kernel_rfl) rfl rfl
              have c := cell_later h.ext z1.out
              exact good_load (wanted_none rfl) rfl f65 (by simp [go_sem, c]) rfl
            · intro b w' h
              have f62 : b.tmps.getD 62 undef = (.int .i64 mk') := h.dep 1 _ 62 (by kernel_rfl) rfl rfl
              have f66 : b.tmps.getD 66 undef = (.int .i64 mk') := h.dep 5 _ 66 (by kernel_rfl) rfl rfl
              exact good_bin (wanted_none rfl) rfl f62 f66 (by exact guard_int _) (by exact run_neq_int Tryz.underlying3 mk' _) rfl
            · intro b w' h
              have f67 : b.tmps.getD 67 undef = (.bool false) := h.dep 6 _ 67 (by kernel_rfl) rfl rfl
              exact good_move (wanted_none rfl) rfl f67
            · intro b w' h
              have f68 : b.tmps.getD 68 undef = (.bool false) := h.dep 7 _ 68 (by kernel_rfl) rfl rfl
              have f5 : b.tmps.getD 5 undef = (.pointer (some ⟨B, 0, none⟩)) := h.else_ 5 (of_decide_eq_true (by kernel_rfl))
              exact good_move (wanted_yes rfl rfl f68) rfl f5
            · intro b w' h
              have f68 : b.tmps.getD 68 undef = (.bool false) := h.dep 7 _ 68 (by kernel_rfl) rfl rfl
              have f69 : b.tmps.getD 69 undef = (.pointer (some ⟨B, 0, none⟩)) := h.dep 8 _ 69 (by kernel_rfl) rfl rfl
              have g69 : b.tmps[69]?.getD undef = (.pointer (some ⟨B, 0, none⟩)) := by rw [← Array.getD_eq_getD_getElem?]; exact f69
              refine good_call (wanted_yes rfl rfl f68) rfl (enters Tryz.func22 (by kernel_rfl) rfl) ?_
              rw [show (#[.tmp 69] : Array Operand).map b.eval = #[(.pointer (some ⟨B, 0, none⟩))] by simp [Act.eval, g69]]
              exact (hq2.out w' h.ext).mono fun e w1 ⟨he, hx⟩ => ⟨_, he, rfl, hx⟩
            · intro b w' h
              have f68 : b.tmps.getD 68 undef = (.bool false) := h.dep 7 _ 68 (by kernel_rfl) rfl rfl
              have f6 : b.tmps.getD 6 undef = (.pointer (some ⟨r, 0, none⟩)) := h.else_ 6 (of_decide_eq_true (by kernel_rfl))
              exact good_move (wanted_yes rfl rfl f68) rfl f6
            · intro b w' h
              have f68 : b.tmps.getD 68 undef = (.bool false) := h.dep 7 _ 68 (by kernel_rfl) rfl rfl
              have f71 : b.tmps.getD 71 undef = (.pointer (some ⟨r, 0, none⟩)) := h.dep 10 _ 71 (by kernel_rfl) rfl rfl
              have g71 : b.tmps[71]?.getD undef = (.pointer (some ⟨r, 0, none⟩)) := by rw [← Array.getD_eq_getD_getElem?]; exact f71
              refine good_call (wanted_yes rfl rfl f68) rfl (enters Tryz.func23 (by kernel_rfl) rfl) ?_
              rw [show (#[.tmp 71] : Array Operand).map b.eval = #[(.pointer (some ⟨r, 0, none⟩))] by simp [Act.eval, g71]]
              exact (hq3.out w' h.ext).mono fun e w1 ⟨he, hx⟩ => ⟨_, he, rfl, hx⟩
            · intro b w' h
              have f68 : b.tmps.getD 68 undef = (.bool false) := h.dep 7 _ 68 (by kernel_rfl) rfl rfl
              have f70 : b.tmps.getD 70 undef = (.int .i64 zc) := h.dep 9 _ 70 (by kernel_rfl) rfl rfl
              have f72 : b.tmps.getD 72 undef = (.int .i64 zc) := h.dep 11 _ 72 (by kernel_rfl) rfl rfl
              exact good_bin (wanted_yes rfl rfl f68) rfl f70 f72 (by exact guard_int _) (by exact run_neq_int Tryz.underlying3 zc _) rfl
            · intro b w' h
              have f68 : b.tmps.getD 68 undef = (.bool false) := h.dep 7 _ 68 (by kernel_rfl) rfl rfl
              have f73 : b.tmps.getD 73 undef = (.bool false) := h.dep 12 _ 73 (by kernel_rfl) rfl rfl
              exact good_pickF (wanted_none rfl) rfl f68 f73
            · intro b w' h
              have f74 : b.tmps.getD 74 undef = (.bool false) := h.dep 13 _ 74 (by kernel_rfl) rfl rfl
              exact good_move (wanted_none rfl) rfl f74
            · intro b w' h
              have f75 : b.tmps.getD 75 undef = (.bool false) := h.dep 14 _ 75 (by kernel_rfl) rfl rfl
              have f5 : b.tmps.getD 5 undef = (.pointer (some ⟨B, 0, none⟩)) := h.else_ 5 (of_decide_eq_true (by kernel_rfl))
              exact good_move (wanted_yes rfl rfl f75) rfl f5
            · intro b w' h
              have f75 : b.tmps.getD 75 undef = (.bool false) := h.dep 14 _ 75 (by kernel_rfl) rfl rfl
              have f76 : b.tmps.getD 76 undef = (.pointer (some ⟨B, 0, none⟩)) := h.dep 15 _ 76 (by kernel_rfl) rfl rfl
              have g76 : b.tmps[76]?.getD undef = (.pointer (some ⟨B, 0, none⟩)) := by rw [← Array.getD_eq_getD_getElem?]; exact f76
              refine good_call (wanted_yes rfl rfl f75) rfl (enters Tryz.func25 (by kernel_rfl) rfl) ?_
              rw [show (#[.tmp 76] : Array Operand).map b.eval = #[(.pointer (some ⟨B, 0, none⟩))] by simp [Act.eval, g76]]
              exact (hq4.out w' h.ext).mono fun e w1 ⟨v', M, he, hM, ho, hx⟩ => ⟨_, he, ⟨M, hM, ho.ew⟩, hx⟩
            · intro b w' h
              have f75 : b.tmps.getD 75 undef = (.bool false) := h.dep 14 _ 75 (by kernel_rfl) rfl rfl
              have f6 : b.tmps.getD 6 undef = (.pointer (some ⟨r, 0, none⟩)) := h.else_ 6 (of_decide_eq_true (by kernel_rfl))
              exact good_move (wanted_yes rfl rfl f75) rfl f6
            · intro b w' h
              have f75 : b.tmps.getD 75 undef = (.bool false) := h.dep 14 _ 75 (by kernel_rfl) rfl rfl
              have f78 : b.tmps.getD 78 undef = (.pointer (some ⟨r, 0, none⟩)) := h.dep 17 _ 78 (by kernel_rfl) rfl rfl
              exact good_nilCheck (wanted_yes rfl rfl f75) rfl f78 rfl
            · intro b w' h
              have f75 : b.tmps.getD 75 undef = (.bool false) := h.dep 14 _ 75 (by kernel_rfl) rfl rfl
              have f79 : b.tmps.getD 79 undef = (.pointer (some ⟨r, 0, none⟩)) := h.dep 18 _ 79 (by kernel_rfl) rfl rfl
              exact good_field (wanted_yes rfl rfl f75) rfl f79 (by simp [go_sem]) rfl
            · intro b w' h
              have f75 : b.tmps.getD 75 undef = (.bool false) := h.dep 14 _ 75 (by kernel_rfl) rfl rfl
              have f80 : b.tmps.getD 80 undef = (.pointer (some ⟨r, 0, none⟩)) := h.dep 19 _ 80 (by kernel_rfl) rfl rfl
              have c := cell_later h.ext z0.out
              exact good_load (wanted_yes rfl rfl f75) rfl f80 (by simp [go_sem, c]) rfl
            · intro b w' h
              have f75 : b.tmps.getD 75 undef = (.bool false) := h.dep 14 _ 75 (by kernel_rfl) rfl rfl
              have f77 := h.dep 16 _ 77 (by kernel_rfl) rfl rfl
              have f81 : b.tmps.getD 81 undef = (.slice A2 n2 c2) := h.dep 20 _ 81 (by kernel_rfl) rfl rfl
              obtain ⟨M, hM, hEM⟩ := f77
              obtain ⟨UA, ucap, hu⟩ := ew_oneB hEM
              have g77 : b.tmps[77]?.getD undef = .slice UA M.length ucap := by rw [← Array.getD_eq_getD_getElem?]; exact hu
              have g81 : b.tmps[81]?.getD undef = .slice A2 n2 c2 := by rw [← Array.getD_eq_getD_getElem?]; exact f81
              refine good_call (wanted_yes rfl rfl f75) rfl (enters Tryz.func24 (by kernel_rfl) rfl) ?_
              rw [show (#[.tmp 77, .tmp 81] : Array Operand).map b.eval = #[.slice UA M.length ucap, .slice A2 n2 c2] by simp [Act.eval, g77, g81]]
              rw [hu] at hEM
              exact (hq5.out w' h.ext M _ hM hEM).mono fun e w1 ⟨he, hx⟩ => ⟨_, he, rfl, hx⟩
            · intro b w' h
              have f75 : b.tmps.getD 75 undef = (.bool false) := h.dep 14 _ 75 (by kernel_rfl) rfl rfl
              have f82 : b.tmps.getD 82 undef = (.bool true) := h.dep 21 _ 82 (by kernel_rfl) rfl rfl
              have g82 : b.tmps[82]?.getD undef = .bool true := by rw [← Array.getD_eq_getD_getElem?]; exact f82
              exact good_run (wanted_yes rfl rfl f75) (v := .bool false) (by simp [execOp, Act.eval, go_sem, g82, Sem.run_bind, Sem.run_pure, Result.andThen_ok]) rfl
            · intro b w' h
              have f75 : b.tmps.getD 75 undef = (.bool false) := h.dep 14 _ 75 (by kernel_rfl) rfl rfl
              have f83 : b.tmps.getD 83 undef = (.bool false) := h.dep 22 _ 83 (by kernel_rfl) rfl rfl
              exact good_pickF (wanted_none rfl) rfl f75 f83
          intro b wq hXq hd hz he' hf
          have f84 : b.tmps.getD 84 undef = (.bool false) := hf 23 _ 84 rfl rfl
          have e := frame_puts hd hz he'
          obtain ⟨x, hx⟩ : ∃ x : Nat → Value, ∀ d, b.tmps.getD d undef = x d := ⟨_, fun _ => rfl⟩
          rw [hx] at f84
          rw [show dstsOf _ = [61, 62, 63, 64, 65, 66, 67, 68, 69, 70, 71, 72, 73, 74, 75, 76, 77, 78, 79, 80, 81, 82, 83, 84] from rfl] at e
          simp only [List.foldl, hx, Act.put, List.setIfInBounds_toArray, List.set_cons_succ, List.set_cons_zero] at e
          rw [f84] at e
          clear hf he' hz hd hx f84
          subst e
          go_wp2_with fail
          go_roundg (l.length - (k + 1))
          case measure => omega
          case rel => exact ⟨k + 1, mk', Y, by go_num, by omega, hmk'.out, hYl.out, hide ((hCz.out.ext hXq).le (by omega)), hide (hRz.out.ext hXq), hide (hXz.out.trans hXq)⟩
      · have hge : (l.length : Int) ≤ k := by omega
        have dk : decide ((k : Int) < l.length) = false := decide_eq_false (by omega)
        have hcX := hCB.out
        obtain ⟨T1, n1, hb1, hx1, hn1⟩ := hCB.out
        obtain ⟨v2, L2, hb2, hL2⟩ := hRB.out
        obtain ⟨A2, c2, ev2, -, -, -⟩ := ew_form hb2.2.1
        obtain ⟨n2, hn2⟩ : ∃ n2, n2 = L2.length := ⟨_, rfl⟩
        rw [← hn2] at ev2
        have hXl60 : X.length ≤ 60 := by have := eB_pre l k; omega
        have hL2l : L2.length ≤ 1024 := by rw [← hL2] at hXl60; simp only [eds, List.length_map] at hXl60; omega
        have hEw2 : Ew w0 [] (.slice A2 n2 c2) L2 := by rw [← ev2]; exact Ew.less hb2.2.1 (by simp)
        have hpc := hide (bagPieces_c B mb n1 mk T1 X w0 hb1 hx1)
        have hrp := hide (fun w' (hx : Ext w0 w') => refPieces_c L2 hL2l (.slice A2 n2 c2) w' (hEw2.ext hx))
        rw [hL2] at hrp
        have hry := hide (fun w' (hx : Ext w0 w') => refRowMay_c q _ w' (Sl.ext hqw.out (hX.out.trans hx)))
        have hrj := hide (fun w' (hx : Ext w0 w') => refJumps_c L2 q (.slice A2 n2 c2) _ w' (hEw2.ext hx) (Sl.ext hqw.out (hX.out.trans hx)) (by omega))
        rw [hL2] at hrj
        have hjz : ∀ p ∈ T1, p.2.2.2.length * 16 ≤ 140737488351232 := fun p hp => by
          have := mayJ_len ((mayE_iff.1 hx1.may).2.2 _ (hx1.mem hp))
          omega
        have hbj := hide (fun w' (hx : Ext w0 w') => bagJumps_c [B, mb] B mb n1 mk T1 hjz q hqi (by have := rowB_len hqi; omega) _ w' (hb1.ext hx) (Sl.ext hqw.out (hX.out.trans hx)))
        have hjx := hide (And.intro (fun hm : mayR q = true => jmpAt_x hx1 ⟨hm, hqi⟩) (fun hm : mayR q = false => jmpAt_bad hx1 hm))
        have z0 := hb2.1.cell 0 rfl
        rw [ev2] at z0
        have zl := block_lt_of_cell z0
        haveI : In r w0 := ⟨zl⟩
        replace z0 := hide z0
        clear hb1 hx1 hb2 hL2 ev2 hEw2 hcX hjz hat hew hL2l hXl60
        replace hn2 := hide hn2
        cases hm : mayR q
        · rw [hm] at hry
          have hj0 := hjx.out.2 hm
          rw [hj0] at hbj
          clear hjx
          go_wp2_with (first | (go_at_call 26; (refine hpc.out.mono ?_; rintro ee w4 ⟨v4, M4, rfl, hM4, ho4, hx4⟩; obtain ⟨A4, c4, e4⟩ := own_form ho4.1; subst e4; replace hM4 := hide hM4; replace ho4 := hide ho4; replace hx4 := hide hx4; have y0 := cell_later hx4.out z0.out; have yl := block_lt_of_cell y0; haveI : In r w4 := ⟨yl⟩)) | (go_at_call 27; (refine (hrp.out w4 hx4.out).mono ?_; rintro ee w5 ⟨v5, M5, rfl, hM5, ho5, hx5⟩; obtain ⟨A5, c5, e5⟩ := own_form ho5.1; subst e5; replace hM5 := hide hM5; replace ho5 := hide ho5; replace hx5 := hide hx5)) | (go_at_call 28; first | ((with_reducible refine seq_gw' (hry.out _ (hx4.out.trans (hx5.out.trans ((Ext.refl _).alloc _)))) ?_); intro g6; have y1 := cell_later ((hx5.out.trans ((Ext.refl _).alloc _)).trans g6.grown) y0; have yl1 := block_lt_of_cell y1; haveI : In r g6.val := ⟨yl1⟩) | ((with_reducible refine seq_gw (hry.out _ (hx4.out.trans (hx5.out.trans ((Ext.refl _).alloc _)))) ?_); intro g6; have y1 := cell_later ((hx5.out.trans ((Ext.refl _).alloc _)).trans g6.grown) y0; have yl1 := block_lt_of_cell y1; haveI : In r g6.val := ⟨yl1⟩)) | (go_at_call 14; first | ((with_reducible refine seq_gw' (bagLive_c _) ?_); intro g0) | ((with_reducible refine seq_gw (bagLive_c _) ?_); intro g0)) | (go_at_call 30; have hsm := refPieceSame_c (ho4.out.ew.ext (hx5.out.trans (((Ext.refl _).alloc _).trans g0.grown))) (ho5.out.ew.ext (((Ext.refl _).alloc _).trans g0.grown)); rw [hM4.out, hM5.out, decide_eq_true rfl] at hsm; first | ((with_reducible refine seq_gw' hsm ?_); intro g8; clear hsm) | ((with_reducible refine seq_gw hsm ?_); intro g8; clear hsm)) | (go_at_call 32; (refine (hbj.out _ (hx4.out.trans (hx5.out.trans (((Ext.refl _).alloc _).trans g8.grown)))).mono ?_; rintro ee w9 ⟨v9, rfl, ho9, hx9⟩; obtain ⟨A9, c9, e9⟩ := own_form ho9; subst e9; replace ho9 := hide ho9; replace hx9 := hide hx9)) | (go_at_call 31; have hsm := refStepSame_c _ _ _ _ w9 (Sl.own ho9.out (by simp)) (want0 w5 _ (g8.grown.trans hx9.out)); rw [decide_eq_true rfl] at hsm; first | ((with_reducible refine seq_gw' hsm ?_); intro g10; clear hsm) | ((with_reducible refine seq_gw hsm ?_); intro g10; clear hsm)))
          go_returns
          exact ⟨by first | rfl | simp, hX.out.trans ((hx4.out.trans (hx5.out.trans (((Ext.refl _).alloc _).trans g8.grown))).trans (hx9.out.trans g10.grown))⟩
        · rw [hm] at hry
          have hj0 := hjx.out.1 hm
          rw [hj0] at hbj
          clear hjx
          go_wp2_with (first | (go_at_call 26; (refine hpc.out.mono ?_; rintro ee w4 ⟨v4, M4, rfl, hM4, ho4, hx4⟩; obtain ⟨A4, c4, e4⟩ := own_form ho4.1; subst e4; replace hM4 := hide hM4; replace ho4 := hide ho4; replace hx4 := hide hx4; have y0 := cell_later hx4.out z0.out; have yl := block_lt_of_cell y0; haveI : In r w4 := ⟨yl⟩)) | (go_at_call 27; (refine (hrp.out w4 hx4.out).mono ?_; rintro ee w5 ⟨v5, M5, rfl, hM5, ho5, hx5⟩; obtain ⟨A5, c5, e5⟩ := own_form ho5.1; subst e5; replace hM5 := hide hM5; replace ho5 := hide ho5; replace hx5 := hide hx5)) | (go_at_call 28; first | ((with_reducible refine seq_gw' (hry.out _ (hx4.out.trans (hx5.out.trans ((Ext.refl _).alloc _)))) ?_); intro g6; have y1 := cell_later ((hx5.out.trans ((Ext.refl _).alloc _)).trans g6.grown) y0; have yl1 := block_lt_of_cell y1; haveI : In r g6.val := ⟨yl1⟩) | ((with_reducible refine seq_gw (hry.out _ (hx4.out.trans (hx5.out.trans ((Ext.refl _).alloc _)))) ?_); intro g6; have y1 := cell_later ((hx5.out.trans ((Ext.refl _).alloc _)).trans g6.grown) y0; have yl1 := block_lt_of_cell y1; haveI : In r g6.val := ⟨yl1⟩)) | (go_at_call 29; (refine (hrj.out _ (hx4.out.trans (hx5.out.trans (((Ext.refl _).alloc _).trans g6.grown)))).mono ?_; rintro ee w7 ⟨v7, rfl, ho7, hx7⟩; obtain ⟨A7, c7, e7⟩ := own_form ho7; subst e7; replace ho7 := hide ho7; replace hx7 := hide hx7)) | (go_at_call 14; first | ((with_reducible refine seq_gw' (bagLive_c _) ?_); intro g0) | ((with_reducible refine seq_gw (bagLive_c _) ?_); intro g0)) | (go_at_call 30; have hsm := refPieceSame_c (ho4.out.ew.ext (hx5.out.trans (((Ext.refl _).alloc _).trans (g6.grown.trans (hx7.out.trans g0.grown))))) (ho5.out.ew.ext (((Ext.refl _).alloc _).trans (g6.grown.trans (hx7.out.trans g0.grown)))); rw [hM4.out, hM5.out, decide_eq_true rfl] at hsm; first | ((with_reducible refine seq_gw' hsm ?_); intro g8; clear hsm) | ((with_reducible refine seq_gw hsm ?_); intro g8; clear hsm)) | (go_at_call 32; (refine (hbj.out _ (hx4.out.trans (hx5.out.trans (((Ext.refl _).alloc _).trans (g6.grown.trans (hx7.out.trans g8.grown)))))).mono ?_; rintro ee w9 ⟨v9, rfl, ho9, hx9⟩; obtain ⟨A9, c9, e9⟩ := own_form ho9; subst e9; replace ho9 := hide ho9; replace hx9 := hide hx9)) | (go_at_call 31; have hsm := refStepSame_c _ _ _ _ w9 (Sl.own ho9.out (by simp)) (Sl.ext (Sl.own ho7.out (by simp)) (g8.grown.trans hx9.out)); rw [decide_eq_true rfl] at hsm; first | ((with_reducible refine seq_gw' hsm ?_); intro g10; clear hsm) | ((with_reducible refine seq_gw hsm ?_); intro g10; clear hsm)))
          go_returns
          exact ⟨by first | rfl | simp, hX.out.trans ((hx4.out.trans (hx5.out.trans (((Ext.refl _).alloc _).trans (g6.grown.trans (hx7.out.trans g8.grown))))).trans (hx9.out.trans g10.grown))⟩
  · rw [decide_eq_false hs] at hSm
    clear hs hat hew
    go_enter Tryz.func3, Tryz.ntmps3
    go_wp2_with (first | (go_at_call 13; first | ((with_reducible refine seq_gw' hSm.out ?_); intro g1) | ((with_reducible refine seq_gw hSm.out ?_); intro g1)) | (go_at_call 14; first | ((with_reducible refine seq_gw' (bagLive_c _) ?_); intro g0) | ((with_reducible refine seq_gw (bagLive_c _) ?_); intro g0)))
    go_returns
    exact ⟨by first | rfl | simp, g0.grown⟩

theorem own : ownKnob Tryz.prog.godebug = none := by kernel_rfl
theorem laidOut : laidOutB Tryz.prog = true := by kernel_rfl
set_option maxRecDepth 100000 in
theorem lifted (os : Os) (started : os.Started) (H : Type) (enc : TypeId × Value → H) :
    ReturnsInHanded {} Tryz.checked os 3 .any (Rows.bagDoesSpec.pre6 enc Tryz.prog Tryz.f3 Rows.bagDoesRow.domain false) (Rows.bagDoesSpec.post enc Tryz.prog Tryz.f3 false true false false) := by
  refine returnsInHanded_of_change_sized (C := Tryz.checked) own started (by kernel_rfl) Tryz.func3
    (ChangeSpec.witness6 (enc := enc) (C := Tryz.checked) false ⟨#[], #[.slice none 0 0, .slice none 0 0], []⟩ 8 (by kernel_rfl) (by kernel_rfl) (by kernel_rfl) (by kernel_rfl)) ?_
  intro W base args ds gs before hval0 hW hcnd hsz0 _
  have hsz : (DataW.weightsEach Tryz.prog (Tryz.f3.params.toList ++ Rows.bagDoesSpec.plain.varTypes Tryz.prog) (ds ++ gs)).all (· ≤ reachBytes) = true := hsz0
  clear hsz0
  have hval : ∀ (j : Nat) t v, Tryz.f3.params[j]? = some t → args[j]? = some v → Value.okWide Tryz.prog W .any base t v := hval0
  have hW' := hW
  obtain ⟨p, q, hA0, hV, rfl, hfz, hnd⟩ := hW
  have hA : DataW.TrodAll enc Tryz.prog W 0 (fun _ => true) true Tryz.f3.params.toList args.toList ds p := hA0
  rw [Tryz.params3] at hA hval hsz
  obtain ⟨v0, vs0, d0, ds0, p0, q0, hargs, rfl, rfl, h0, r0⟩ := trodAll_cons hA
  obtain ⟨v1, vs1, d1, ds1, p1, q1, rfl, rfl, rfl, h1, r1⟩ := trodAll_cons r0
  obtain ⟨rfl, rfl, rfl⟩ := trodAll_nil r1
  obtain rfl : args = #[v0, v1] := by cases args; simp_all
  obtain ⟨rfl, rfl⟩ := trodVars_none hV
  have k0 := h0
  have lt0 : ∀ x ∈ p0, x.block < W.heap.size := by obtain ⟨m, hm⟩ := k0; exact DataW.trod_lt m _ _ _ hm
  obtain ⟨A0, n0, c0, rfl⟩ := okWide_slice Tryz.underlying22 (hval 0 22 v0 rfl rfl)
  have ⟨m0, hm0⟩ := h0
  obtain ⟨l, ll, hl⟩ := open_opsB Tryz.underlying22 Tryz.underlying33 (by kernel_rfl) rfl rfl rfl (by kernel_rfl) (by kernel_rfl) (by kernel_rfl) Tryz.underlying3 Tryz.underlying3 Tryz.underlying31 Tryz.underlying115 (by kernel_rfl) rfl rfl rfl (by kernel_rfl) (by kernel_rfl) (by kernel_rfl) Tryz.underlying24 Tryz.underlying3 Tryz.underlying3 Tryz.underlying113 (by kernel_rfl) rfl rfl rfl (by kernel_rfl) (by kernel_rfl) (by kernel_rfl) Tryz.underlying111 Tryz.underlying3 Tryz.underlying9 hm0
  have k1 := h1
  have lt1 : ∀ x ∈ p1, x.block < W.heap.size := by obtain ⟨m, hm⟩ := k1; exact DataW.trod_lt m _ _ _ hm
  obtain ⟨A1, n1, c1, rfl⟩ := okWide_slice Tryz.underlying24 (hval 1 24 v1 rfl rfl)
  have ⟨m1, hm1⟩ := h1
  obtain ⟨r, lr, hr, qr⟩ := open_row Tryz.underlying24 Tryz.underlying113 (by kernel_rfl) rfl rfl rfl (by kernel_rfl) (by kernel_rfl) (by kernel_rfl) Tryz.underlying111 Tryz.underlying3 Tryz.underlying9 hm1
  have zr : r.length * 32 ≤ 140737488351232 := by rw [lr]; exact sized_elems hsz (j := 1) (t := 24) (e := 113) rfl rfl Tryz.underlying24 (by kernel_rfl)
  clear hA0 hval0
  refine (walk l r qr _ _ W hl hr).mono fun e W' ⟨he, bel⟩ => ?_
  subst he
  exact ⟨_, rfl, _, _, _, [], _, [], hW', trodAll_mk1 (shut_bool Tryz.underlying4 _), (trodAll_cons_mk (Below.trod laidOut (by kernel_rfl) (of_decide_eq_true (by kernel_rfl)) k0 bel lt0) (trodAll_cons_mk (Below.trod laidOut (by kernel_rfl) (of_decide_eq_true (by kernel_rfl)) k1 bel lt1) trodAll_mk0)), rfl, bel.frame _, fun h => by cases h⟩

theorem over : Rows.bagDoesRow.holds Tryz.pinned (OpenSpec.ofChange Rows.bagDoesSpec) :=
  OpenClaim.holds_of_wide 3 Tryz.f3 rfl rfl rfl rfl rfl rfl rfl ⟨rfl, rfl, rfl, rfl, rfl⟩ rfl rfl rfl rfl rfl (by kernel_rfl) Tryz.func3 Facts.bagDoes.closed
    (of_decide_eq_true (by kernel_rfl)) (by unfold Func.isWrapper; first | (rw [if_pos (by decide +kernel)]; kernel_rfl) | (rw [if_neg (by decide +kernel)]; exact ⟨rfl, rfl⟩))
    (fun os started H enc _ => lifted os started H enc)

theorem bagDoes_holds : Rows.BagDoesSaid := over
end Go.Proofs.YtobmjcehgpmfgaaGreat.bagDoes
