/-
  Layer 24: what was put in can be taken out again.
-/
import Derived.Test.YthckegejbcagmaaMulP
import Derived.Test.YthckegejbcagmaaArg
import Derived.Deep.LoopGhost
import Derived.WalkKit
import Derived.ProofKit
import Derived.OpenShut
import Derived.ShutString
import Derived.ChangeOld
import Derived.Below
import Derived.Lib.SmallJoins
import Derived.SizedLaws
import Derived.Deep.CondSized
import Derived.JoinedCond
import Derived.Test.YthckegejbcagmaaRows
import Derived.Test.YthckegejbcagmaaChecked
set_option linter.unusedVariables false
set_option linter.unusedSimpArgs false
namespace Go.Proofs.Ythckegejbcagmaa.multiUndo
open Go.ChangeShapes Go.WideShapes Go.ChangeAt Go.RowKit Go.Joins
open Go.ChangeMaps (open_string shut_string)
attribute [local go_sem] GW.cell GW.frozen In.eq_true In.le_true In.ne In.ne' In.ne_add In.ne_add' In.lt_add Upto.le_true Upto.le_add Upto.lt_add
theorem ml_ext {W0 w : World} {b : Nat} {l : List Tg} {c : Int} (h : Ml W0 w b l c) : Ext W0 w := by obtain ⟨_, _, _, hX⟩ := h; exact hX
set_option maxHeartbeats 8000000 in
set_option maxRecDepth 100000 in
theorem walk (l : List (Int × Int)) (pk pn k i : Int) (v : Value) (w : World) (h : Sl w [] 2 v l.length (ps l)) : Calls Try.prog 10 #[v, .agg #[.int .i64 pk, .int .i64 pn], .int .i64 k, .int .i64 i] w fun e w' => e = .returned (.bool true) ∧ Ext w w' := by
  by_cases h60 : l.length ≤ 60
  · obtain ⟨A, cap, rfl, hlc, hlm, hat⟩ := thw_form (show Thw w [] v l from h)
    unfold maxLen at hlm
    have hatH := hide hat
    have hl60 : ¬ (60 : Int) < l.length := by omega
    clear hat
    obtain ⟨WA, hWA⟩ : ∃ WA, WA = w.alloc (.cells #[.int .i64 pk, .int .i64 pn] 49) := ⟨_, rfl⟩
    have hAX : Hid (Ext w WA) := by show Ext w WA; rw [hWA]; exact (Ext.refl w).alloc _
    have hAb : Hid (Ob WA w.heap.size 49 [.int .i64 pk, .int .i64 pn]) := by show Ob _ _ _ _; rw [hWA]; exact Ob.new w _ [_, _]
    have hnew := hide (mnewM WA WA (Ext.refl _))
    clear h
    go_enter Try.func10, Try.ntmps10
    go_wp2_with (rw [← hWA]; clear hWA; go_at_call 27; refine hnew.out.mono ?_; rintro ee w1 ⟨b, rfl, hM1⟩; replace hM1 := hide hM1)
    go_loopg [10] l.length (fun gh iv wr => ∃ (j : Nat) (L : List Tg) (c : Int), iv = .int .i64 j ∧ j + gh = l.length ∧ Hid (Ml WA wr b L c))
    case atStart => exact ⟨0, [], 0, rfl, by omega, hM1⟩
    case round =>
      obtain ⟨j, L, c, rfl, hj, hM⟩ := hrel
      have hXr : Ext WA wr := by obtain ⟨_, _, _, hX⟩ := hM.out; exact hX
      by_cases hlt : j < l.length
      · obtain ⟨x, hx⟩ : ∃ x, l[j]? = some x := ⟨_, List.getElem?_eq_getElem hlt⟩
        obtain ⟨b', o', rfl, -, hb', c0, c1⟩ := hatH.out j x hx
        have k0 := mcell_later (hAX.out.trans hXr) c0
        have k1 := mcell_later (hAX.out.trans hXr) c1
        haveI : In b' wr := ⟨block_lt_of_cell k0⟩
        have hjI : (j : Int) < l.length := by omega
        obtain ⟨xk, xn⟩ := x
        simp only at k0 k1
        have hput := hide (fun w' (hX : Ext wr w') => mputM xk xn WA w' b L c (hM.out.later hX))
        clear c0 c1 hx hb'
        go_wp2_with fail
        refine wp_region_gw_tail 11 (by kernel_rfl) (by kernel_rfl) ?_
        simp only [List.take_succ_cons, List.take_zero, List.drop_succ_cons, List.drop_zero]
        repeat (go_big_quiet_step (fail))
        refine wpQuiet_nil ?_
        intro g
        go_wp2_with (go_at_call 30; refine (hput.out _ g.grown).mono ?_; rintro ee w2 ⟨rfl, hM2⟩; replace hM2 := hide hM2)
        go_roundg (l.length - (j + 1))
        case measure => omega
        case rel => exact ⟨j + 1, _, _, by go_num, by omega, hM2⟩
      · have hge : (l.length : Int) ≤ j := by omega
        have hlive := hide (fun w' => multiLive_c w')
        have hcnt := hide (fun w' (h : Ml WA w' b L c) => mcountM WA w' b L c h)
        have hof := hide (fun w' (h : Ml WA w' b L c) => mofM k WA w' b L c h)
        have hnth := hide (fun w' (h : Ml WA w' b L c) => mnthM i WA w' b L c h)
        have hput := hide (fun w' (h : Ml WA w' b L c) => mputM pk pn WA w' b L c h)
        have bx := hAb.out.ext hXr
        have q0 := bx.cell 0 rfl
        have q1 := bx.cell 1 rfl
        haveI : In w.heap.size wr := ⟨bx.lt⟩
        replace bx := hide bx
        generalize (nthR i L c).1 = nx at *
        generalize (nthR i L c).2 = ny at *
        generalize ofT k L = ok at *
        have hgood : Good L c := by obtain ⟨_, _, hg, _⟩ := hM.out; exact hg
        by_cases he : putE pk pn L c = 0
        · obtain ⟨hb1, hb2, hb3⟩ := put_both hgood he
          obtain ⟨⟨hn1, hn2⟩, -, -⟩ := putE_ok.1 he
          have hc1 : putC pk pn L c = c + pn := by unfold putC; rw [if_pos he]
          have hc2 : putC pk (-pn) (putL pk pn L c) (c + pn) = c := by unfold putC; rw [if_pos hb2]; omega
          rw [he, hc1] at hput
          have hput2 := hide (fun w' (h : Ml WA w' b (putL pk pn L c) (c + pn)) => mputM pk (-pn) WA w' b _ _ h)
          rw [hb2, hb3, hc2] at hput2
          generalize putL pk pn L c = L2 at *
          have hneg : IntKind.i64.wrap (-pn) = -pn := by rw [IntKind.wrap_i64]; omega
          clear hb1 hb2 hb3 hc1 hc2 he hgood hatH
          go_wp2_with (first
            | (go_at_call 34; first
                | ((with_reducible refine seq_gw (hcnt.out _ hM.out) ?_); intro gA; have hA := hide (hM.out.later gA.grown))
                | ((with_reducible refine seq_gw (hcnt.out _ hE.out) ?_); intro gF; have hF := hide (hE.out.later gF.grown)))
            | (go_at_call 35; first
                | ((with_reducible refine seq_gw (hof.out _ hA.out) ?_); intro gB; have hB := hide (hA.out.later gB.grown))
                | ((with_reducible refine seq_gw (hof.out _ hF.out) ?_); intro gG; have hG := hide (hF.out.later gG.grown)))
            | (go_at_call 32; first
                | ((with_reducible refine seq_gw (hnth.out _ hB.out) ?_); intro gC; have hC := hide (hB.out.later gC.grown))
                | ((with_reducible refine seq_gw (hnth.out _ hM3.out) ?_); intro gD; have hD := hide (hM3.out.later gD.grown)))
            | (go_at_call 30; first | ((with_reducible refine (hput.out _ hC.out).mono ?_); rintro ee w2 ⟨rfl, hM2⟩; have bx2 := hAb.out.ext (ml_ext hM2); have r0 := bx2.cell 0 rfl; have r1 := bx2.cell 1 rfl; haveI : In w.heap.size w2 := ⟨bx2.lt⟩; replace bx2 := hide bx2; replace hM2 := hide hM2) | ((with_reducible refine (hput2.out _ hM2.out).mono ?_); rintro ee w3 ⟨rfl, hM3⟩; replace hM3 := hide hM3))
            | (go_at_call 26; (with_reducible refine seq_gw (hlive.out _) ?_); intro gE; have hE := hide (hD.out.later gE.grown)))
          go_returns
          exact ⟨by first | rfl | simp, hAX.out.trans (ml_ext hG.out)⟩
        · have hL : putL pk pn L c = L := by unfold putL; rw [if_neg he]
          have hC : putC pk pn L c = c := by unfold putC; rw [if_neg he]
          rw [hL, hC] at hput
          generalize putE pk pn L c = E at *
          have heb : (E == 0) = false := by rw [beq_eq_false_iff_ne]; exact he
          clear hL hC hgood hatH
          go_wp2_with (first
            | (go_at_call 34; first
                | ((with_reducible refine seq_gw (hcnt.out _ hM.out) ?_); intro gA; have hA := hide (hM.out.later gA.grown))
                | ((with_reducible refine seq_gw (hcnt.out _ hE.out) ?_); intro gF; have hF := hide (hE.out.later gF.grown)))
            | (go_at_call 35; first
                | ((with_reducible refine seq_gw (hof.out _ hA.out) ?_); intro gB; have hB := hide (hA.out.later gB.grown))
                | ((with_reducible refine seq_gw (hof.out _ hF.out) ?_); intro gG; have hG := hide (hF.out.later gG.grown)))
            | (go_at_call 32; first
                | ((with_reducible refine seq_gw (hnth.out _ hB.out) ?_); intro gC; have hC := hide (hB.out.later gC.grown))
                | ((with_reducible refine seq_gw (hnth.out _ hM2.out) ?_); intro gD; have hD := hide (hM2.out.later gD.grown)))
            | (go_at_call 30; ((with_reducible refine (hput.out _ hC.out).mono ?_); rintro ee w2 ⟨rfl, hM2⟩; have bx2 := hAb.out.ext (ml_ext hM2); have r0 := bx2.cell 0 rfl; have r1 := bx2.cell 1 rfl; haveI : In w.heap.size w2 := ⟨bx2.lt⟩; replace bx2 := hide bx2; replace hM2 := hide hM2))
            | (go_at_call 26; (with_reducible refine seq_gw (hlive.out _) ?_); intro gE; have hE := hide (hD.out.later gE.grown)))
          go_returns
          exact ⟨by first | rfl | simp, hAX.out.trans (ml_ext hG.out)⟩
  · obtain ⟨A, cap, rfl, hlc, hlm, hat⟩ := thw_form (show Thw w [] v l from h)
    have hl60 : (60 : Int) < l.length := by omega
    clear h hat
    go_enter Try.func10, Try.ntmps10
    go_wp2_with (go_at_call 26; (with_reducible refine seq_gw (multiLive_c _) ?_); intro g9)
    go_returns
    exact ⟨rfl, ((Ext.refl w).alloc _).trans g9.grown⟩

theorem own : ownKnob Try.prog.godebug = none := by kernel_rfl
theorem laidOut : laidOutB Try.prog = true := by kernel_rfl
set_option maxRecDepth 100000 in
theorem lifted (os : Os) (started : os.Started) (H : Type) (enc : TypeId × Value → H) :
    ReturnsInHanded {} Try.checked os 10 .any (Rows.multiUndoSpec.pre6 enc Try.prog Try.f10 Rows.multiUndoRow.domain false) (Rows.multiUndoSpec.post enc Try.prog Try.f10 false true false false) := by
  refine returnsInHanded_of_change_sized (C := Try.checked) own started (by kernel_rfl) Try.func10
    (ChangeSpec.witness6 (enc := enc) (C := Try.checked) false ⟨#[], #[.slice none 0 0, .agg #[.int .i64 0, .int .i64 0], .int .i64 0, .int .i64 0], []⟩ 8 (by kernel_rfl) (by kernel_rfl) (by kernel_rfl) (by kernel_rfl)) ?_
  intro W base args ds gs before hval0 hW hcnd hsz0 _
  have hsz : (DataW.weightsEach Try.prog (Try.f10.params.toList ++ Rows.multiUndoSpec.plain.varTypes Try.prog) (ds ++ gs)).all (· ≤ reachBytes) = true := hsz0
  clear hsz0
  have hval : ∀ (j : Nat) t v, Try.f10.params[j]? = some t → args[j]? = some v → Value.okWide Try.prog W .any base t v := hval0
  have hW' := hW
  obtain ⟨p, q, hA0, hV, rfl, hfz, hnd⟩ := hW
  have hA : DataW.TrodAll enc Try.prog W 0 (fun _ => true) true Try.f10.params.toList args.toList ds p := hA0
  rw [Try.params10] at hA hval hsz
  obtain ⟨v0, vs0, d0, ds0, p0, q0, hargs, rfl, rfl, h0, r0⟩ := trodAll_cons hA
  obtain ⟨v1, vs1, d1, ds1, p1, q1, rfl, rfl, rfl, h1, r1⟩ := trodAll_cons r0
  obtain ⟨v2, vs2, d2, ds2, p2, q2, rfl, rfl, rfl, h2, r2⟩ := trodAll_cons r1
  obtain ⟨v3, vs3, d3, ds3, p3, q3, rfl, rfl, rfl, h3, r3⟩ := trodAll_cons r2
  obtain ⟨rfl, rfl, rfl⟩ := trodAll_nil r3
  obtain rfl : args = #[v0, v1, v2, v3] := by cases args; simp_all
  obtain ⟨rfl, rfl⟩ := trodVars_none hV
  have k0 := h0
  have lt0 : ∀ x ∈ p0, x.block < W.heap.size := by obtain ⟨m, hm⟩ := k0; exact DataW.trod_lt m _ _ _ hm
  obtain ⟨A0, n0, c0, rfl⟩ := okWide_slice Try.underlying40 (hval 0 40 v0 rfl rfl)
  have ⟨m0, hm0⟩ := h0
  obtain ⟨l, ll, hl, ql⟩ := open_pairs Try.underlying40 Try.underlying49 (by kernel_rfl) rfl rfl (by kernel_rfl) (by kernel_rfl) Try.underlying3 Try.underlying3 hm0
  have zl : l.length ≤ 140737488351232 := by rw [ll]; exact sized_len hsz (j := 0) (t := 40) (e := 49) rfl rfl Try.underlying40 (of_decide_eq_true (by kernel_rfl))
  have k1 := h1
  have lt1 : ∀ x ∈ p1, x.block < W.heap.size := by obtain ⟨m, hm⟩ := k1; exact DataW.trod_lt m _ _ _ hm
  obtain ⟨c1a, c1b, y1a, y1b, m1, rfl, _, _, hy1a, hy1b⟩ := open_agg2 Try.underlying49 (by kernel_rfl) (by kernel_rfl) (hval 1 49 v1 rfl rfl) h1
  obtain ⟨pa, e1a, _, wpa⟩ := DataW.trod_int Try.underlying3 hy1a
  simp at e1a; subst e1a
  obtain ⟨pb, e1b, _, wpb⟩ := DataW.trod_int Try.underlying3 hy1b
  simp at e1b; subst e1b
  have k2 := h2
  have lt2 : ∀ x ∈ p2, x.block < W.heap.size := by obtain ⟨m, hm⟩ := k2; exact DataW.trod_lt m _ _ _ hm
  obtain ⟨k, rfl, _, _, wk⟩ := open_int Try.underlying3 (hval 2 3 v2 rfl rfl) h2
  have hk := wf_i64 wk
  have k3 := h3
  have lt3 : ∀ x ∈ p3, x.block < W.heap.size := by obtain ⟨m, hm⟩ := k3; exact DataW.trod_lt m _ _ _ hm
  obtain ⟨i, rfl, _, _, wi⟩ := open_int Try.underlying3 (hval 3 3 v3 rfl rfl) h3
  have hi := wf_i64 wi
  clear hA0 hval0
  refine (walk l pa pb k i _ W hl).mono fun e W' ⟨he, bel⟩ => ?_
  subst he
  exact ⟨_, rfl, _, _, _, [], _, [], hW', trodAll_mk1 (shut_bool Try.underlying4 _), (trodAll_cons_mk (Below.trod laidOut (by kernel_rfl) (of_decide_eq_true (by kernel_rfl)) k0 bel lt0) (trodAll_cons_mk (Below.trod laidOut (by kernel_rfl) (of_decide_eq_true (by kernel_rfl)) k1 bel lt1) (trodAll_cons_mk (Below.trod laidOut (by kernel_rfl) (of_decide_eq_true (by kernel_rfl)) k2 bel lt2) (trodAll_cons_mk (Below.trod laidOut (by kernel_rfl) (of_decide_eq_true (by kernel_rfl)) k3 bel lt3) trodAll_mk0)))), rfl, bel.frame _, fun h => by cases h⟩

theorem over : Rows.multiUndoRow.holds Try.pinned (OpenSpec.ofChange Rows.multiUndoSpec) :=
  OpenClaim.holds_of_wide 10 Try.f10 rfl rfl rfl rfl rfl rfl rfl ⟨rfl, rfl, rfl, rfl, rfl⟩ rfl rfl rfl rfl rfl (by kernel_rfl) Try.func10 (by kernel_rfl)
    (of_decide_eq_true (by kernel_rfl)) (by unfold Func.isWrapper; first | (rw [if_pos (by decide +kernel)]; kernel_rfl) | (rw [if_neg (by decide +kernel)]; exact ⟨rfl, rfl⟩))
    (fun os started H enc _ => lifted os started H enc)

theorem multiUndo_holds : Rows.MultiUndoSaid := over
end Go.Proofs.Ythckegejbcagmaa.multiUndo
