/-
  Layer 25: whatever is put in, how far the sum is to the east and to the north is as the document says; spun, too.
-/
import Derived.Test.YtnneicdphlidhaaLenD
import Derived.Test.YtnneicdphlidhaaArg
import Derived.Deep.LoopGhost
import Derived.WalkKit
import Derived.ProofKit
import Derived.OpenShut
import Derived.ShutString
import Derived.ChangeOld
import Derived.Below
import Derived.Lib.SmallJoins
import Derived.SizedLaws
import Derived.Deep.CondSized
import Derived.JoinedCond
import Derived.Test.YtnneicdphlidhaaRows
import Derived.Test.YtnneicdphlidhaaChecked
set_option linter.unusedVariables false
set_option linter.unusedSimpArgs false
namespace Go.Proofs.Ytnneicdphlidhaa.leanPuts
open Go.ChangeShapes Go.WideShapes Go.ChangeAt Go.RowKit Go.Joins
open Go.ChangeMaps (open_string shut_string)
open Floats
attribute [local go_sem] GW.cell GW.frozen In.eq_true In.le_true In.ne In.ne' In.ne_add In.ne_add' In.lt_add Upto.le_true Upto.le_add Upto.lt_add
set_option maxHeartbeats 8000000 in
set_option maxRecDepth 100000 in
theorem walk (l : List (Int × Int)) (q : Int) (v : Value) (w : World) (h : Sl w [] 2 v l.length (ps l)) : Calls Try.prog 5 #[v, .int .i64 q] w fun e w' => e = .returned (.bool true) ∧ Ext w w' := by
  obtain ⟨A, cap, rfl, hlc, hlm, hat⟩ := pr_form h
  unfold maxLen at hlm
  have hatH := hide hat
  have hnew := hide (lnewM w)
  clear hat h
  go_enter Try.func5, Try.ntmps5
  go_wp2_with (go_at_call 22; refine hnew.out.mono ?_; rintro ee w1 ⟨b, rfl, hM1⟩; replace hM1 := hide hM1)
  obtain ⟨WA, hWA⟩ : ∃ WA, WA = w1.alloc (.cells #[.int .i64 0, .int .i64 0] 51) := ⟨_, rfl⟩
  obtain ⟨r, hr⟩ : ∃ r, r = w1.heap.size := ⟨_, rfl⟩
  have hbl := hM1.out.ln.lt
  have hbr : Hid (b ≠ r) := by show b ≠ r; omega
  have hXA : Ext w1 WA := by rw [hWA]; exact (Ext.refl w1).alloc _
  have hL0 : Hid (Ln WA b 0 0) := hM1.out.ln.ext hXA
  have hD0 : Hid (Ld WA r 0 0) := by show Ob _ _ _ _; rw [hWA, hr]; exact Ob.new w1 _ [_, _]
  have hX0 : Hid (Ext w WA) := hM1.out.e.trans hXA
  have hbw : Hid (w.heap.size ≤ b) := hM1.out.2.1
  have hrw : Hid (w.heap.size ≤ r) := by show _ ≤ r; rw [hr]; exact hM1.out.e.size
  rw [← hWA, ← hr]
  clear hWA hXA hbl hM1 hr hnew
  go_loopg [7] l.length (fun gh iv wr => ∃ (j : Nat) (x y : Int), iv = .int .i64 j ∧ j + gh = l.length ∧ Hid (Ln wr b x y) ∧ Hid (Ld wr r x y) ∧ Hid (Ext w wr))
  case atStart => exact ⟨0, 0, 0, rfl, by omega, hL0, hD0, hX0⟩
  case round =>
    clear hL0 hD0 hX0
    obtain ⟨j, x, y, rfl, hj, hL, hD, hX⟩ := hrel
    have hN : Near x y := by obtain ⟨_, _, _, _, _, hN⟩ := hL.out; exact hN
    by_cases hlt : j < l.length
    · obtain ⟨p, hp⟩ : ∃ p, l[j]? = some p := ⟨_, List.getElem?_eq_getElem hlt⟩
      obtain ⟨b0, o, rfl, -, hb0, c0, c1⟩ := hatH.out j p hp
      have k0 := lcell_later hX.out c0
      have k1 := lcell_later hX.out c1
      have hjI : (j : Int) < l.length := by omega
      obtain ⟨xk, xn⟩ := p
      simp only at k0 k1
      have hb0n : Hid (b0 ∉ [b, r]) := by have h1 := hbw.out; have h2 := hrw.out; show b0 ∉ [b, r]; simp; omega
      have hP1 := hide (fun w' (h : Ln w' b x y) => lput_c xk xn b x y w' h)
      have hP2 := hide (fun w' (h : Ld w' r x y) => refLput_c xk xn r x y w' h hN)
      clear c0 c1 hp hb0 hN
      generalize lpE xk xn x y = E at *
      generalize lpX xk xn x y = X at *
      generalize lpY xk xn x y = Y at *
      go_wp2_with fail
      refine wp_region_objs (S := [b, r]) [.is (.pointer (some ⟨b, 0, none⟩)), .is (.slice (some ⟨b0, o, none⟩) l.length cap), .is (.int .i64 j), .is (.pointer (some ⟨b0, o + j * 2, none⟩)), .is (.pointer (some ⟨b0, o + j * 2 + 0, none⟩)), .is (.int .i64 xk), .is (.slice (some ⟨b0, o, none⟩) l.length cap), .is (.int .i64 j), .is (.pointer (some ⟨b0, o + j * 2, none⟩)), .is (.pointer (some ⟨b0, o + j * 2 + 1, none⟩)), .is (.int .i64 xn), .is (.int .i64 E), .is (.pointer (some ⟨r, 0, none⟩)), .is (.slice (some ⟨b0, o, none⟩) l.length cap), .is (.int .i64 j), .is (.pointer (some ⟨b0, o + j * 2, none⟩)), .is (.pointer (some ⟨b0, o + j * 2 + 0, none⟩)), .is (.int .i64 xk), .is (.slice (some ⟨b0, o, none⟩) l.length cap), .is (.int .i64 j), .is (.pointer (some ⟨b0, o + j * 2, none⟩)), .is (.pointer (some ⟨b0, o + j * 2 + 1, none⟩)), .is (.int .i64 xn), .is (.int .i64 E), .is (.bool false)] (relQ b r 11 23 x y X Y) [11, 23] (by kernel_rfl) (by kernel_rfl) (by kernel_rfl) (fun _ _ _ hj hx => relQ_ext hj hx) relQ_keys ⟨hL.out, hD.out⟩ ?_ ?_
      · refine ⟨?_, ?_, ?_, ?_, ?_, ?_, ?_, ?_, ?_, ?_, ?_, ?_, ?_, ?_, ?_, ?_, ?_, ?_, ?_, ?_, ?_, ?_, ?_, ?_, ?_, trivial⟩
        · intro bb w' Lf h
          have f5 : bb.tmps.getD 5 undef = (.pointer (some ⟨b, 0, none⟩)) := h.else_ 5 (of_decide_eq_true (by kernel_rfl))
          exact .inl ⟨by decide, good_move (wanted_none rfl) rfl f5⟩
        · intro bb w' Lf h
          have f0 : bb.tmps.getD 0 undef = (.slice (some ⟨b0, o, none⟩) l.length cap) := h.else_ 0 (of_decide_eq_true (by kernel_rfl))
          exact .inl ⟨by decide, good_move (wanted_none rfl) rfl f0⟩
        · intro bb w' Lf h
          have f7 : bb.tmps.getD 7 undef = (.int .i64 j) := h.else_ 7 (of_decide_eq_true (by kernel_rfl))
          exact .inl ⟨by decide, good_move (wanted_none rfl) rfl f7⟩
        · intro bb w' Lf h
          have f27 : bb.tmps.getD 27 undef = (.slice (some ⟨b0, o, none⟩) l.length cap) := h.dep 1 _ 27 (by kernel_rfl) rfl rfl
          have f28 : bb.tmps.getD 28 undef = (.int .i64 j) := h.dep 2 _ 28 (by kernel_rfl) rfl rfl
          exact .inl ⟨by decide, good_index (wanted_none rfl) rfl f27 f28 (by simp [go_sem, hjI]) rfl⟩
        · intro bb w' Lf h
          have f29 : bb.tmps.getD 29 undef = (.pointer (some ⟨b0, o + j * 2, none⟩)) := h.dep 3 _ 29 (by kernel_rfl) rfl rfl
          exact .inl ⟨by decide, good_field (wanted_none rfl) rfl f29 (by simp [go_sem]) rfl⟩
        · intro bb w' Lf h
          have f30 : bb.tmps.getD 30 undef = (.pointer (some ⟨b0, o + j * 2 + 0, none⟩)) := h.dep 4 _ 30 (by kernel_rfl) rfl rfl
          have c := lcell_fr h.ext k0 hb0n.out
          exact .inl ⟨by decide, good_load (wanted_none rfl) rfl f30 (by simp [go_sem, c]) rfl⟩
        · intro bb w' Lf h
          have f0 : bb.tmps.getD 0 undef = (.slice (some ⟨b0, o, none⟩) l.length cap) := h.else_ 0 (of_decide_eq_true (by kernel_rfl))
          exact .inl ⟨by decide, good_move (wanted_none rfl) rfl f0⟩
        · intro bb w' Lf h
          have f7 : bb.tmps.getD 7 undef = (.int .i64 j) := h.else_ 7 (of_decide_eq_true (by kernel_rfl))
          exact .inl ⟨by decide, good_move (wanted_none rfl) rfl f7⟩
        · intro bb w' Lf h
          have f32 : bb.tmps.getD 32 undef = (.slice (some ⟨b0, o, none⟩) l.length cap) := h.dep 6 _ 32 (by kernel_rfl) rfl rfl
          have f33 : bb.tmps.getD 33 undef = (.int .i64 j) := h.dep 7 _ 33 (by kernel_rfl) rfl rfl
          exact .inl ⟨by decide, good_index (wanted_none rfl) rfl f32 f33 (by simp [go_sem, hjI]) rfl⟩
        · intro bb w' Lf h
          have f34 : bb.tmps.getD 34 undef = (.pointer (some ⟨b0, o + j * 2, none⟩)) := h.dep 8 _ 34 (by kernel_rfl) rfl rfl
          exact .inl ⟨by decide, good_field (wanted_none rfl) rfl f34 (by simp [go_sem]) rfl⟩
        · intro bb w' Lf h
          have f35 : bb.tmps.getD 35 undef = (.pointer (some ⟨b0, o + j * 2 + 1, none⟩)) := h.dep 9 _ 35 (by kernel_rfl) rfl rfl
          have c := lcell_fr h.ext k1 hb0n.out
          exact .inl ⟨by decide, good_load (wanted_none rfl) rfl f35 (by simp [go_sem, c]) rfl⟩
        · intro bb w' Lf h
          have f26 : bb.tmps.getD 26 undef = (.pointer (some ⟨b, 0, none⟩)) := h.dep 0 _ 26 (by kernel_rfl) rfl rfl
          have g26 : bb.tmps[26]?.getD undef = (.pointer (some ⟨b, 0, none⟩)) := by rw [← Array.getD_eq_getD_getElem?]; exact f26
          have f31 : bb.tmps.getD 31 undef = (.int .i64 xk) := h.dep 5 _ 31 (by kernel_rfl) rfl rfl
          have g31 : bb.tmps[31]?.getD undef = (.int .i64 xk) := by rw [← Array.getD_eq_getD_getElem?]; exact f31
          have f36 : bb.tmps.getD 36 undef = (.int .i64 xn) := h.dep 10 _ 36 (by kernel_rfl) rfl rfl
          have g36 : bb.tmps[36]?.getD undef = (.int .i64 xn) := by rw [← Array.getD_eq_getD_getElem?]; exact f36
          refine .inr (goodM_call (wanted_none rfl) rfl (enters Try.func23 (by kernel_rfl) rfl) ?_)
          rw [show (#[.tmp 26, .tmp 31, .tmp 36] : Array Operand).map bb.eval = #[(.pointer (some ⟨b, 0, none⟩)), (.int .i64 xk), (.int .i64 xn)] by simp [Act.eval, g26, g31, g36]]
          exact (hP1.out w' (relQ_fst h.obj h.fresh)).mono fun e w1 ⟨he, hA, hF⟩ => ⟨_, he, rfl, hF.more (fun q _ hq => by simp at hq ⊢; exact .inl hq), relQ_one (by decide) hbr.out.symm h.obj hA hF⟩
        · intro bb w' Lf h
          have f6 : bb.tmps.getD 6 undef = (.pointer (some ⟨r, 0, none⟩)) := h.else_ 6 (of_decide_eq_true (by kernel_rfl))
          exact .inl ⟨by decide, good_move (wanted_none rfl) rfl f6⟩
        · intro bb w' Lf h
          have f0 : bb.tmps.getD 0 undef = (.slice (some ⟨b0, o, none⟩) l.length cap) := h.else_ 0 (of_decide_eq_true (by kernel_rfl))
          exact .inl ⟨by decide, good_move (wanted_none rfl) rfl f0⟩
        · intro bb w' Lf h
          have f7 : bb.tmps.getD 7 undef = (.int .i64 j) := h.else_ 7 (of_decide_eq_true (by kernel_rfl))
          exact .inl ⟨by decide, good_move (wanted_none rfl) rfl f7⟩
        · intro bb w' Lf h
          have f39 : bb.tmps.getD 39 undef = (.slice (some ⟨b0, o, none⟩) l.length cap) := h.dep 13 _ 39 (by kernel_rfl) rfl rfl
          have f40 : bb.tmps.getD 40 undef = (.int .i64 j) := h.dep 14 _ 40 (by kernel_rfl) rfl rfl
          exact .inl ⟨by decide, good_index (wanted_none rfl) rfl f39 f40 (by simp [go_sem, hjI]) rfl⟩
        · intro bb w' Lf h
          have f41 : bb.tmps.getD 41 undef = (.pointer (some ⟨b0, o + j * 2, none⟩)) := h.dep 15 _ 41 (by kernel_rfl) rfl rfl
          exact .inl ⟨by decide, good_field (wanted_none rfl) rfl f41 (by simp [go_sem]) rfl⟩
        · intro bb w' Lf h
          have f42 : bb.tmps.getD 42 undef = (.pointer (some ⟨b0, o + j * 2 + 0, none⟩)) := h.dep 16 _ 42 (by kernel_rfl) rfl rfl
          have c := lcell_fr h.ext k0 hb0n.out
          exact .inl ⟨by decide, good_load (wanted_none rfl) rfl f42 (by simp [go_sem, c]) rfl⟩
        · intro bb w' Lf h
          have f0 : bb.tmps.getD 0 undef = (.slice (some ⟨b0, o, none⟩) l.length cap) := h.else_ 0 (of_decide_eq_true (by kernel_rfl))
          exact .inl ⟨by decide, good_move (wanted_none rfl) rfl f0⟩
        · intro bb w' Lf h
          have f7 : bb.tmps.getD 7 undef = (.int .i64 j) := h.else_ 7 (of_decide_eq_true (by kernel_rfl))
          exact .inl ⟨by decide, good_move (wanted_none rfl) rfl f7⟩
        · intro bb w' Lf h
          have f44 : bb.tmps.getD 44 undef = (.slice (some ⟨b0, o, none⟩) l.length cap) := h.dep 18 _ 44 (by kernel_rfl) rfl rfl
          have f45 : bb.tmps.getD 45 undef = (.int .i64 j) := h.dep 19 _ 45 (by kernel_rfl) rfl rfl
          exact .inl ⟨by decide, good_index (wanted_none rfl) rfl f44 f45 (by simp [go_sem, hjI]) rfl⟩
        · intro bb w' Lf h
          have f46 : bb.tmps.getD 46 undef = (.pointer (some ⟨b0, o + j * 2, none⟩)) := h.dep 20 _ 46 (by kernel_rfl) rfl rfl
          exact .inl ⟨by decide, good_field (wanted_none rfl) rfl f46 (by simp [go_sem]) rfl⟩
        · intro bb w' Lf h
          have f47 : bb.tmps.getD 47 undef = (.pointer (some ⟨b0, o + j * 2 + 1, none⟩)) := h.dep 21 _ 47 (by kernel_rfl) rfl rfl
          have c := lcell_fr h.ext k1 hb0n.out
          exact .inl ⟨by decide, good_load (wanted_none rfl) rfl f47 (by simp [go_sem, c]) rfl⟩
        · intro bb w' Lf h
          have f38 : bb.tmps.getD 38 undef = (.pointer (some ⟨r, 0, none⟩)) := h.dep 12 _ 38 (by kernel_rfl) rfl rfl
          have g38 : bb.tmps[38]?.getD undef = (.pointer (some ⟨r, 0, none⟩)) := by rw [← Array.getD_eq_getD_getElem?]; exact f38
          have f43 : bb.tmps.getD 43 undef = (.int .i64 xk) := h.dep 17 _ 43 (by kernel_rfl) rfl rfl
          have g43 : bb.tmps[43]?.getD undef = (.int .i64 xk) := by rw [← Array.getD_eq_getD_getElem?]; exact f43
          have f48 : bb.tmps.getD 48 undef = (.int .i64 xn) := h.dep 22 _ 48 (by kernel_rfl) rfl rfl
          have g48 : bb.tmps[48]?.getD undef = (.int .i64 xn) := by rw [← Array.getD_eq_getD_getElem?]; exact f48
          refine .inr (goodM_call (wanted_none rfl) rfl (enters Try.func24 (by kernel_rfl) rfl) ?_)
          rw [show (#[.tmp 38, .tmp 43, .tmp 48] : Array Operand).map bb.eval = #[(.pointer (some ⟨r, 0, none⟩)), (.int .i64 xk), (.int .i64 xn)] by simp [Act.eval, g38, g43, g48]]
          exact (hP2.out w' (relQ_snd h.obj h.fresh)).mono fun e w1 ⟨he, hR, hF⟩ => ⟨_, he, rfl, hF.more (fun q _ hq => by simp at hq ⊢; exact .inr hq), relQ_two (by decide) hbr.out h.obj hR hF⟩
        · intro bb w' Lf h
          have f37 : bb.tmps.getD 37 undef = (.int .i64 E) := h.dep 11 _ 37 (by kernel_rfl) rfl rfl
          have f49 : bb.tmps.getD 49 undef = (.int .i64 E) := h.dep 23 _ 49 (by kernel_rfl) rfl rfl
          exact .inl ⟨by decide, good_bin (wanted_none rfl) rfl f37 f49 (by exact guard_int _) (by exact run_neq_int Try.underlying33 E _) rfl⟩
      intro b1 wz hF7 hd7 hz7 he7 hf7 hJ7
      obtain ⟨hA7, hR7⟩ := relQ_all (hJ7 (fun j => decide (j < 25)) (by intro j hj; simpa using hj) (by intro j hj; simpa using hj)) rfl rfl
      have f50 : b1.tmps.getD 50 undef = .bool false := hf7 24 _ 50 rfl rfl
      clear hJ7 hf7
      have e := frame_puts hd7 hz7 he7
      obtain ⟨xx, hx⟩ : ∃ xx : Nat → Value, ∀ d, b1.tmps.getD d undef = xx d := ⟨_, fun _ => rfl⟩
      rw [hx] at f50
      rw [show dstsOf _ = [26, 27, 28, 29, 30, 31, 32, 33, 34, 35, 36, 37, 38, 39, 40, 41, 42, 43, 44, 45, 46, 47, 48, 49, 50] from rfl] at e
      simp only [List.foldl, hx, Act.put, List.setIfInBounds_toArray, List.set_cons_succ, List.set_cons_zero] at e
      rw [f50] at e
      clear hx f50 he7 hz7 hd7
      subst e
      have hAz := hide hA7
      have hRz := hide hR7
      have hXz := hide (ext_fr hX.out hF7 (by simp; exact ⟨hbw.out, hrw.out⟩))
      clear hA7 hR7 hF7
      have hpt := hide (lparts_c b X Y wz hAz.out)
      clear hP1 hP2 hL hD hX
      go_wp2_with (go_at_call 25; (with_reducible refine seq_gw hpt.out ?_); intro g1; have hRg := hRz.out.ext g1.grown; have r0 := hRg.cell 0 rfl; have r1 := hRg.cell 1 rfl; replace hRg := hide hRg)
      go_roundg (l.length - (j + 1))
      case measure => omega
      case rel => exact ⟨j + 1, X, Y, by go_num, by omega, hAz.out.ext g1.grown, hRg, hXz.out.trans g1.grown⟩
    · have hge : (l.length : Int) ≤ j := by omega
      have hsp := hide (fun w' (h : Ln w' b x y) => lspun_c q b x y w' h)
      have hpt := hide (fun w' c (h : Ln w' c (spE q x y) (spN q x y)) => lparts_c c _ _ w' h)
      have hrs := hide (fun w' (h : Ld w' r x y) => refLspun_c q r x y w' h hN)
      have hun := hide (fun w' => unit_c q w')
      have hru := hide (fun w' => refUnit_c q w')
      have hli := hide (fun w' => leanLive_c w')
      generalize spE q x y = sx at *
      generalize spN q x y = sy at *
      generalize tE q = t1 at *
      generalize tN q = t2 at *
      clear hN hatH
      go_wp2_with (first
        | (go_at_call 26; (with_reducible refine (hsp.out _ hL.out).mono ?_); rintro ee w2 ⟨c, rfl, hS, -, hX2⟩; replace hS := hide hS; have hD2 := hide (hD.out.ext hX2); replace hX2 := hide (hX.out.trans hX2))
        | (go_at_call 25; (with_reducible refine seq_gw (hpt.out _ _ hS.out) ?_); intro g1; have hD3 := hide (hD2.out.ext g1.grown))
        | (go_at_call 27; (with_reducible refine seq_gw' (hrs.out _ hD3.out) ?_); intro g2)
        | (go_at_call 28; (with_reducible refine seq_gw (hun.out _) ?_); intro g3)
        | (go_at_call 29; (with_reducible refine seq_gw' (hru.out _) ?_); intro g4)
        | (go_at_call 30; (with_reducible refine seq_gw' (hli.out _) ?_); intro g5))
      go_returns
      refine ⟨by first | rfl | simp, hX2.out.trans ?_⟩
      repeat (first | exact Ext.refl _ | with_reducible assumption | exact g2.grown | refine Ext.alloc ?_ _ | refine Ext.drew ?_ | refine Ext.drewN ?_ _ | refine ext_gw ?_ _ | refine Ext.setCell ?_ (by first | (simp; done) | (simp [Upto.le_true, Upto.le_add]; done) | (simp; omega)) _)

theorem own : ownKnob Try.prog.godebug = none := by kernel_rfl
theorem laidOut : laidOutB Try.prog = true := by kernel_rfl
set_option maxRecDepth 100000 in
theorem lifted (os : Os) (started : os.Started) (H : Type) (enc : TypeId × Value → H) :
    ReturnsInHanded {} Try.checked os 5 .any (Rows.leanPutsSpec.pre6 enc Try.prog Try.f5 Rows.leanPutsRow.domain false) (Rows.leanPutsSpec.post enc Try.prog Try.f5 false true false false) := by
  refine returnsInHanded_of_change_sized (C := Try.checked) own started (by kernel_rfl) Try.func5
    (ChangeSpec.witness6 (enc := enc) (C := Try.checked) false ⟨#[], #[.slice none 0 0, .int .i64 0], []⟩ 8 (by kernel_rfl) (by kernel_rfl) (by kernel_rfl) (by kernel_rfl)) ?_
  intro W base args ds gs before hval0 hW hcnd hsz0 _
  have hsz : (DataW.weightsEach Try.prog (Try.f5.params.toList ++ Rows.leanPutsSpec.plain.varTypes Try.prog) (ds ++ gs)).all (· ≤ reachBytes) = true := hsz0
  clear hsz0
  have hval : ∀ (j : Nat) t v, Try.f5.params[j]? = some t → args[j]? = some v → Value.okWide Try.prog W .any base t v := hval0
  have hW' := hW
  obtain ⟨p, q, hA0, hV, rfl, hfz, hnd⟩ := hW
  have hA : DataW.TrodAll enc Try.prog W 0 (fun _ => true) true Try.f5.params.toList args.toList ds p := hA0
  rw [Try.params5] at hA hval hsz
  obtain ⟨v0, vs0, d0, ds0, p0, q0, hargs, rfl, rfl, h0, r0⟩ := trodAll_cons hA
  obtain ⟨v1, vs1, d1, ds1, p1, q1, rfl, rfl, rfl, h1, r1⟩ := trodAll_cons r0
  obtain ⟨rfl, rfl, rfl⟩ := trodAll_nil r1
  obtain rfl : args = #[v0, v1] := by cases args; simp_all
  obtain ⟨rfl, rfl⟩ := trodVars_none hV
  have k0 := h0
  have lt0 : ∀ x ∈ p0, x.block < W.heap.size := by obtain ⟨m, hm⟩ := k0; exact DataW.trod_lt m _ _ _ hm
  obtain ⟨A0, n0, c0, rfl⟩ := okWide_slice Try.underlying46 (hval 0 46 v0 rfl rfl)
  have ⟨m0, hm0⟩ := h0
  obtain ⟨l, ll, hl, ql⟩ := open_pairs Try.underlying46 Try.underlying53 (by kernel_rfl) rfl rfl (by kernel_rfl) (by kernel_rfl) Try.underlying3 Try.underlying3 hm0
  have zl : l.length ≤ 140737488351232 := by rw [ll]; exact sized_len hsz (j := 0) (t := 46) (e := 53) rfl rfl Try.underlying46 (of_decide_eq_true (by kernel_rfl))
  have k1 := h1
  have lt1 : ∀ x ∈ p1, x.block < W.heap.size := by obtain ⟨m, hm⟩ := k1; exact DataW.trod_lt m _ _ _ hm
  obtain ⟨q, rfl, _, _, wq⟩ := open_int Try.underlying3 (hval 1 3 v1 rfl rfl) h1
  have hq := wf_i64 wq
  clear hA0 hval0
  refine (walk l q _ W hl).mono fun e W' ⟨he, bel⟩ => ?_
  subst he
  exact ⟨_, rfl, _, _, _, [], _, [], hW', trodAll_mk1 (shut_bool Try.underlying4 _), (trodAll_cons_mk (Below.trod laidOut (by kernel_rfl) (of_decide_eq_true (by kernel_rfl)) k0 bel lt0) (trodAll_cons_mk (Below.trod laidOut (by kernel_rfl) (of_decide_eq_true (by kernel_rfl)) k1 bel lt1) trodAll_mk0)), rfl, bel.frame _, fun h => by cases h⟩

theorem over : Rows.leanPutsRow.holds Try.pinned (OpenSpec.ofChange Rows.leanPutsSpec) :=
  OpenClaim.holds_of_wide 5 Try.f5 rfl rfl rfl rfl rfl rfl rfl ⟨rfl, rfl, rfl, rfl, rfl⟩ rfl rfl rfl rfl rfl (by kernel_rfl) Try.func5 (by kernel_rfl)
    (of_decide_eq_true (by kernel_rfl)) (by unfold Func.isWrapper; first | (rw [if_pos (by decide +kernel)]; kernel_rfl) | (rw [if_neg (by decide +kernel)]; exact ⟨rfl, rfl⟩))
    (fun os started H enc _ => lifted os started H enc)

theorem leanPuts_holds : Rows.LeanPutsSaid := over
end Go.Proofs.Ytnneicdphlidhaa.leanPuts
