/-
  Layer 13 (fold), 13.1 and 13.2: for every list of messages (of which those of up to 200 count), the events that are left, with their lifetimes, and their table, are those that the document says. No condition.
-/
import Derived.Test.YtiknkcadbaeknaaGreatFolG
import Derived.Test.YtiknkcadbaeknaaGreatFoldEventsF
import Derived.Test.YtiknkcadbaeknaaGreatPakP
import Derived.WalkKit
import Derived.ProofKit
import Derived.OpenShut
import Derived.ShutString
import Derived.ChangeOld
import Derived.Below
import Derived.Lib.SmallJoins
import Derived.SizedLaws
import Derived.Deep.CondSized
import Derived.JoinedCond
set_option linter.unusedVariables false
set_option linter.unusedSimpArgs false
namespace Go.Proofs.YtiknkcadbaeknaaGreat.foldEvents
open Go.ChangeShapes Go.WideShapes Go.ChangeAt Go.RowKit Go.Joins
open Go.ChangeMaps (open_string shut_string)
attribute [local go_sem] GW.cell GW.frozen In.eq_true In.le_true In.ne In.ne' In.ne_add In.ne_add' In.lt_add Upto.le_true Upto.le_add Upto.lt_add
set_option maxHeartbeats 8000000 in
set_option maxRecDepth 100000 in
theorem walk (l : List Vm) (hi : ∀ p ∈ l, inM p.2) (u : Value) (w : World) (hl : Mw w [] u l) : Calls Tryz.prog 5 #[u] w fun e w' => e = .returned (.bool true) ∧ Ext w w' := by
  by_cases hs : l.length ≤ 200
  · have d1 : ¬ (200 : Int) < l.length := by omega
    have han := hide (fun w' (hX : Ext w w') => events_c l u w' (hl.ext hX) hi (by omega))
    have hal := hide (fun w' (hX : Ext w w') => refAll_c l u w' (hl.ext hX) (by omega))
    have hta := hide (fun w' (hX : Ext w w') => table_c l u w' (hl.ext hX) hi (by omega))
    have htr := hide (fun w' (hX : Ext w w') => refTable13_c l u w' (hl.ext hX) (by omega))
    obtain ⟨LA, lc, rfl, -⟩ := mw_form hl
    rw [lft_ex _ (run_okS (pms l) ex_okS)] at han
    have hpl : (pms l).length = l.length := by simp [pms]
    unfold AllPost at hal
    rw [hpl] at hal
    obtain ⟨S, hS⟩ : ∃ S, S = runS (0, []) (pms l) := ⟨_, rfl⟩
    rw [← hS] at han hal
    obtain ⟨PE, hPE⟩ : ∃ x, x = ppE (exP (pms l)) := ⟨_, rfl⟩
    obtain ⟨PR, hPR⟩ : ∃ x, x = ppR (exP (pms l)) := ⟨_, rfl⟩
    rw [← hPE, ← hPR] at hta htr
    clear hl hi hS hPE hPR hpl
    go_enter Tryz.func5, Tryz.ntmps5
    go_wp2_with (first | (go_at_call 15; (refine (han.out _ (Ext.refl _)).mono ?_; rintro ee w1 ⟨v1, M1, rfl, ho1, hM1, hx1⟩; obtain ⟨A1, c1, q1⟩ := ho1.form; subst q1; replace ho1 := hide ho1; replace hx1 := hide hx1; replace hM1 := hide hM1)) | (go_at_call 11; (refine (hal.out _ hx1.out).mono ?_; rintro ee w2 ⟨v2, v3, rfl, ev, gv, EL, CL, ho2, hC2, -, hSd, hEl, hx2⟩; obtain ⟨A2, c2, q2⟩ := own_form ho2; subst q2; obtain ⟨A3, c3, q3⟩ := hC2.form; subst q3; replace hSd := hide hSd; have ho1b := hide (ho1.out.ext hx2); replace hx2 := hide (hx1.out.trans hx2); clear ho2 hC2)) | (go_at_call 16; (refine (refLeft_c w1.heap.size w1.heap.size S ev gv EL w2 hSd.out (by omega)).mono ?_; rintro ee w3 ⟨v3, M2, rfl, ho3, hM2, hx3⟩; obtain ⟨A4, c4, q4⟩ := ho3.form; subst q4; have ho1c := hide (ho1b.out.ext hx3); have hX3 := hide (hx2.out.trans hx3); have hMM := hide (hM1.out.trans hM2.symm); have hl1 := congrArg List.length hMM.out; rw [List.length_map, List.length_map] at hl1; have hml := congrArg List.length hM2; have hlf := lft_len S.2; have hle := congrArg List.length hSd.out.evs; rw [List.length_map] at hml hle; have hMb := hide (show M1.length ≤ 200 by omega); have hLL := hide (show M1.length = M2.length by omega); have hne : ((M1.length : Int) != (M2.length : Int)) = false := (by rw [hLL.out]; exact bne_self_eq_false _); replace ho3 := hide ho3; clear hl1 hml hlf hle hM2 hx3)))
    haveI : Gn w w3 := ⟨hX3.out⟩
    have hMb2 := hMb.out
    go_loopg [8] M1.length (fun gh iv wr => ∃ (k : Nat), iv = .int .i64 k ∧ k + gh = M1.length ∧ Hid (Ext w3 wr))
    case atStart => exact ⟨0, rfl, by omega, Ext.refl _⟩
    case round =>
      obtain ⟨k, rfl, hk, hX⟩ := hrel
      by_cases hkl : k < M1.length
      · have hkI : (k : Int) < M1.length := by omega
        have hkI2 : (k : Int) < M2.length := by have := hLL.out; omega
        have hkl2 : k < M2.length := by have := hLL.out; omega
        obtain ⟨x, hx⟩ : ∃ x, M1[k]? = some x := ⟨_, List.getElem?_eq_getElem hkl⟩
        obtain ⟨y, hy⟩ : ∃ y, M2[k]? = some y := ⟨_, List.getElem?_eq_getElem hkl2⟩
        have hxy : x.2 = y.2 := by
          have h1 := congrArg (fun l => l[k]?) hMM.out
          simp only [List.getElem?_map, hx, hy, Option.map_some] at h1
          exact Option.some.inj h1
        obtain ⟨ga, ca, PA, pa, ea, -, la, ya, x0, x1, x2, x3⟩ := own_evat (ho1c.out.ext hX.out) hx
        obtain ⟨gb, cb, PB, pb, eb, -, lb, yb, y0, y1, y2, y3⟩ := own_evat (ho3.out.ext hX.out) hy
        have rx := hide ((ho1c.out.ext hX.out).2 x (List.mem_of_getElem? hx)).rw
        have ry := hide ((ho3.out.ext hX.out).2 y (List.mem_of_getElem? hy)).rw
        cases ea
        cases eb
        haveI : In ga wr := ⟨la⟩
        haveI : In gb wr := ⟨lb⟩
        obtain ⟨xv, ⟨xi, xr⟩, xa, xb⟩ := x
        obtain ⟨yv, yc⟩ := y
        simp only at hxy
        subst hxy
        simp only at ya yb x0 x1 x2 x3 y0 y1 y2 y3 rx ry
        subst ya
        subst yb
        have hsm := hide (fun w' (hx' : Ext wr w') => refRowSame_c (Sl.ext rx.out hx') (Sl.ext ry.out hx'))
        rw [decide_eq_true rfl] at hsm
        obtain ⟨xl, hxl⟩ : ∃ xl, xl = xr.length := ⟨_, rfl⟩
        rw [← hxl] at hsm x1 y1
        replace hxl := hide hxl
        clear hx hy rx ry
        go_wp2_with fail
        refine wp_region_gw (by kernel_rfl) (by kernel_rfl) ?_
        repeat (go_big_quiet_step ((go_at_call 17; exact quiet_gw (hsm.out _ Gn.ext))))
        refine wpQuiet_nil ?_
        intro g4
        go_wp2_with fail
        go_roundg (M1.length - (k + 1))
        case measure => omega
        case rel => exact ⟨k + 1, by go_num, by omega, hX.out.trans g4.grown⟩
      · have hge : (M1.length : Int) ≤ k := by omega
        clear hMM ho3 ho1c hal han ho1 ho1b
        go_wp2_with (first | (go_at_call 18; (refine (hta.out _ (hX3.out.trans hX.out)).mono ?_; rintro ee w5 ⟨v5, M5, rfl, hM5, o5, x5⟩; obtain ⟨AM5, cM5, qM5⟩ := own_form o5.1; subst qM5; have X5 := hide ((hX3.out.trans hX.out).trans x5); replace hM5 := hide hM5; skip)) | (go_at_call 19; (refine (htr.out _ X5.out).mono ?_; rintro ee w6 ⟨v6, M6, rfl, hM6, o6, x6⟩; obtain ⟨AM6, cM6, qM6⟩ := own_form o6.1; subst qM6; have X6 := hide (X5.out.trans x6); replace hM6 := hide hM6; skip)) | (go_at_call 9; first | ((with_reducible refine seq_gw' (foldLive_c _) ?_); intro g8) | ((with_reducible refine seq_gw (foldLive_c _) ?_); intro g8)) | (go_at_call 20; have hsm := refPieceSame_c ((o5.ew.ext x6).ext g8.grown) (o6.ew.ext g8.grown); rw [hM5.out, hM6.out, decide_eq_true rfl] at hsm; first | ((with_reducible refine seq_gw' hsm ?_); intro g9; clear hsm) | ((with_reducible refine seq_gw hsm ?_); intro g9; clear hsm)))
        go_returns
        exact ⟨by first | rfl | simp, X6.out.trans (by first | exact g9.grown | exact g8.grown.trans g9.grown)⟩
  · have d1 : (200 : Int) < l.length := by omega
    obtain ⟨LA, lc, rfl, -⟩ := mw_form hl
    clear hl hi
    go_enter Tryz.func5, Tryz.ntmps5
    go_wp2_with (go_at_call 9; first | ((with_reducible refine seq_gw' (foldLive_c _) ?_); intro g0) | ((with_reducible refine seq_gw (foldLive_c _) ?_); intro g0))
    go_returns
    exact ⟨by first | rfl | simp, g0.grown⟩

theorem own : ownKnob Tryz.prog.godebug = none := by kernel_rfl
theorem laidOut : laidOutB Tryz.prog = true := by kernel_rfl
set_option maxRecDepth 100000 in
theorem lifted (os : Os) (started : os.Started) (H : Type) (enc : TypeId × Value → H) :
    ReturnsInHanded {} Tryz.checked os 5 .any (Rows.foldEventsSpec.pre6 enc Tryz.prog Tryz.f5 Rows.foldEventsRow.domain false) (Rows.foldEventsSpec.post enc Tryz.prog Tryz.f5 false true false false) := by
  refine returnsInHanded_of_change_sized (C := Tryz.checked) own started (by kernel_rfl) Tryz.func5
    (ChangeSpec.witness6 (enc := enc) (C := Tryz.checked) false ⟨#[], #[.slice none 0 0], []⟩ 8 (by kernel_rfl) (by kernel_rfl) (by kernel_rfl) (by kernel_rfl)) ?_
  intro W base args ds gs before hval0 hW hcnd hsz0 _
  have hsz : (DataW.weightsEach Tryz.prog (Tryz.f5.params.toList ++ Rows.foldEventsSpec.plain.varTypes Tryz.prog) (ds ++ gs)).all (· ≤ reachBytes) = true := hsz0
  clear hsz0
  have hval : ∀ (j : Nat) t v, Tryz.f5.params[j]? = some t → args[j]? = some v → Value.okWide Tryz.prog W .any base t v := hval0
  have hW' := hW
  obtain ⟨p, q, hA0, hV, rfl, hfz, hnd⟩ := hW
  have hA : DataW.TrodAll enc Tryz.prog W 0 (fun _ => true) true Tryz.f5.params.toList args.toList ds p := hA0
  rw [Tryz.params5] at hA hval hsz
  obtain ⟨v0, vs0, d0, ds0, p0, q0, hargs, rfl, rfl, h0, r0⟩ := trodAll_cons hA
  obtain ⟨rfl, rfl, rfl⟩ := trodAll_nil r0
  obtain rfl : args = #[v0] := by cases args; simp_all
  obtain ⟨rfl, rfl⟩ := trodVars_none hV
  have k0 := h0
  have lt0 : ∀ x ∈ p0, x.block < W.heap.size := by obtain ⟨m, hm⟩ := k0; exact DataW.trod_lt m _ _ _ hm
  obtain ⟨A0, n0, c0, rfl⟩ := okWide_slice Tryz.underlying22 (hval 0 22 v0 rfl rfl)
  have ⟨m0, hm0⟩ := h0
  obtain ⟨l, ll, hl, ql⟩ := open_msgs Tryz.underlying22 Tryz.underlying67 (by kernel_rfl) rfl rfl rfl rfl rfl (by kernel_rfl) (by kernel_rfl) (by kernel_rfl) (by kernel_rfl) (by kernel_rfl) Tryz.underlying65 Tryz.underlying3 Tryz.underlying3 Tryz.underlying3 Tryz.underlying40 Tryz.underlying93 (by kernel_rfl) rfl rfl rfl (by kernel_rfl) (by kernel_rfl) (by kernel_rfl) Tryz.underlying91 Tryz.underlying3 Tryz.underlying9 hm0
  have zl : l.length * 56 ≤ 140737488351232 := by rw [ll]; exact sized_elems hsz (j := 0) (t := 22) (e := 67) rfl rfl Tryz.underlying22 (by kernel_rfl)
  clear hA0 hval0
  refine (walk l ql _ W hl).mono fun e W' ⟨he, bel⟩ => ?_
  subst he
  exact ⟨_, rfl, _, _, _, [], _, [], hW', trodAll_mk1 (shut_bool Tryz.underlying4 _), (trodAll_cons_mk (Below.trod laidOut (by kernel_rfl) (of_decide_eq_true (by kernel_rfl)) k0 bel lt0) trodAll_mk0), rfl, bel.frame _, fun h => by cases h⟩

theorem over : Rows.foldEventsRow.holds Tryz.pinned (OpenSpec.ofChange Rows.foldEventsSpec) :=
  OpenClaim.holds_of_wide 5 Tryz.f5 rfl rfl rfl rfl rfl rfl rfl ⟨rfl, rfl, rfl, rfl, rfl⟩ rfl rfl rfl rfl rfl (by kernel_rfl) Tryz.func5 Facts.foldEvents.closed
    (of_decide_eq_true (by kernel_rfl)) (by unfold Func.isWrapper; first | (rw [if_pos (by decide +kernel)]; kernel_rfl) | (rw [if_neg (by decide +kernel)]; exact ⟨rfl, rfl⟩))
    (fun os started H enc _ => lifted os started H enc)

theorem foldEvents_holds : Rows.FoldEventsSaid := over
end Go.Proofs.YtiknkcadbaeknaaGreat.foldEvents
