/-
  Layer 11 (pack), 11.1 and 11.2: for every list of pieces (of which those of up to 60 count), the edges of the table of pieces, of any order, are those that the document says; packed, too. No condition.
-/
import Derived.Test.YtgniebjigphcgaaGreatPakF
import Derived.Test.YtgniebjigphcgaaGreatEdgL
import Derived.Test.YtgniebjigphcgaaGreatDrRowD
import Derived.Test.YtgniebjigphcgaaGreatArgP
import Derived.WalkKit
import Derived.ProofKit
import Derived.OpenShut
import Derived.ShutString
import Derived.ChangeOld
import Derived.Below
import Derived.Lib.SmallJoins
import Derived.SizedLaws
import Derived.Deep.CondSized
import Derived.JoinedCond
set_option linter.unusedVariables false
set_option linter.unusedSimpArgs false
namespace Go.Proofs.YtgniebjigphcgaaGreat.packEdges
open Go.ChangeShapes Go.WideShapes Go.ChangeAt Go.RowKit Go.Joins
open Go.ChangeMaps (open_string shut_string)
attribute [local go_sem] GW.cell GW.frozen In.eq_true In.le_true In.ne In.ne' In.ne_add In.ne_add' In.lt_add Upto.le_true Upto.le_add Upto.lt_add

set_option maxHeartbeats 1000000 in
theorem few_c (n : Nat) (w : World) : Calls Tryz.prog 10 #[.int .i64 n] w fun e w' => e = .returned (.bool (decide (n ≤ 60))) ∧ Ext w w' := by
  by_cases hl : n ≤ 60
  · have hI : (n : Int) ≤ 60 := by omega
    rw [decide_eq_true hl]
    go_enter Tryz.func10, Tryz.ntmps10
    go_wp2_with fail
    go_returns
    exact ⟨by first | rfl | simp, Ext.refl w⟩
  · have hI : ¬ (n : Int) ≤ 60 := by omega
    rw [decide_eq_false hl]
    go_enter Tryz.func10, Tryz.ntmps10
    go_wp2_with fail
    go_returns
    exact ⟨by first | rfl | simp, Ext.refl w⟩
set_option maxHeartbeats 8000000 in
set_option maxRecDepth 100000 in
theorem walk (l : List Ve) (v : Value) (w : World) (h : Ew w [] v l) : Calls Tryz.prog 5 #[v] w fun e w' => e = .returned (.bool true) ∧ Ext w w' := by
  have hfew := hide (few_c l.length w)
  by_cases hl : l.length ≤ 60
  · rw [decide_eq_true hl] at hfew
    have hA := hide (fun w' (hX : Ext w w') => packEdges_c l (by omega) v w' (h.ext hX))
    have hB := hide (fun w' (hX : Ext w w') => refPcEdges_c l (by omega) v w' (h.ext hX))
    have hC := hide (fun w' (hX : Ext w w') => packPack_c l (by omega) v w' (h.ext hX))
    have hD := hide (fun w' (hX : Ext w w') => refPcPack_c l (by omega) v w' (h.ext hX))
    have hrow := hide h.2
    obtain ⟨VA, acap, rfl, hlc, hlm, hat⟩ := ew_form h
    unfold maxLen at hlm
    replace hat := hide hat
    clear h
    generalize pkE (eds l) = E1 at *
    generalize pkR (eds l) = R1 at *
    generalize ppE (eds l) = E2 at *
    generalize ppR (eds l) = R2 at *
    have be1 : (E1 == E1) = true := by simp
    have be2 : (E2 == E2) = true := by simp
    go_enter Tryz.func5, Tryz.ntmps5
    go_wp2_with (first | (go_at_call 10; (with_reducible refine seq_gw hfew.out ?_); intro g0) | (go_at_call 17; refine (hA.out _ g0.grown).mono ?_; rintro ee w1 ⟨v1, M1, rfl, hM1, o1, x1⟩; have X1 := hide (g0.grown.trans x1); obtain ⟨AM1, cM1, qM1⟩ := own_form o1.1; subst qM1) | (go_at_call 19; refine (hB.out _ X1.out).mono ?_; rintro ee w2 ⟨v2, M2, rfl, hM2, o2, x2⟩; have X2 := hide (X1.out.trans x2); obtain ⟨AM2, cM2, qM2⟩ := own_form o2.1; subst qM2) | (go_at_call 20; refine (hC.out _ X2.out).mono ?_; rintro ee w3 ⟨v3, M3, rfl, hM3, o3, x3⟩; have X3 := hide (X2.out.trans x3); obtain ⟨AM3, cM3, qM3⟩ := own_form o3.1; subst qM3) | (go_at_call 21; refine (hD.out _ X3.out).mono ?_; rintro ee w4 ⟨v4, M4, rfl, hM4, o4, x4⟩; have X4 := hide (X3.out.trans x4); obtain ⟨AM4, cM4, qM4⟩ := own_form o4.1; subst qM4))
    have Y3 := hide x4
    have Y2 := hide (x3.trans x4)
    have Y1 := hide (x2.trans (x3.trans x4))
    replace o1 := hide o1
    replace o2 := hide o2
    replace o3 := hide o3
    replace o4 := hide o4
    replace hM1 := hide hM1
    replace hM2 := hide hM2
    replace hM3 := hide hM3
    replace hM4 := hide hM4
    clear hA hB hC hD x1 x2 x3 x4
    go_loopg [11] l.length (fun gh i wr => ∃ (k : Nat), i = .int .i64 k ∧ k + gh = l.length ∧ Ext w4 wr)
    case atStart => exact ⟨0, rfl, by omega, Ext.refl _⟩
    case round =>
      obtain ⟨k, rfl, hk, hX⟩ := hrel
      by_cases hlt : k < l.length
      · obtain ⟨x, hx⟩ : ∃ x, l[k]? = some x := ⟨_, List.getElem?_eq_getElem hlt⟩
        obtain ⟨b, o, rfl, -, hb, c0, c1, c2⟩ := hat.out k x hx
        have hXw := X4.out.trans hX
        have k0 := cell_later hXw c0
        have k1 := cell_later hXw c1
        have k2 := cell_later hXw c2
        have hbr : b < wr.heap.size := block_lt_of_cell k0
        haveI : In b wr := ⟨hbr⟩
        have hrw := Sl.ext (hrow.out x (List.mem_of_getElem? hx)) hXw
        obtain ⟨xv, xq, xa, xn⟩ := x
        simp only at k0 k1 k2 hrw
        have hm1 := hide (fun w' (hX' : Ext wr w') => pcMay_c xq (xa, xn) xv w' (Sl.ext hrw hX'))
        have hm2 := hide (fun w' (hX' : Ext wr w') => refPcMay_c xq (xa, xn) xv w' (Sl.ext hrw hX'))
        obtain ⟨XA, xcap, rfl⟩ := rw_val hrw
        generalize mayPc (xq, (xa, xn)) = m at *
        have bm : (m != m) = false := by simp
        have hltI : (k : Int) < l.length := by omega
        clear c0 c1 c2 hx hat hrow hrw hXw
        go_wp2_with fail
        refine wp_region_gw (by kernel_rfl) (by kernel_rfl) ?_
        repeat (go_big_quiet_step ((first | (go_at_call 22; with_reducible exact quiet_gw (hm1.out _ (GW.grown _))) | (go_at_call 23; with_reducible exact quiet_gw (hm2.out _ (GW.grown _))))))
        refine wpQuiet_nil ?_
        intro g
        go_wp2_with fail
        go_roundg (l.length - (k + 1))
        case measure => omega
        case rel => exact ⟨k + 1, by go_num, by omega, hX.trans g.grown⟩
      · have hge : (l.length : Int) ≤ k := by omega
        have hXw := hide (X4.out.trans hX)
        clear hat hrow
        go_wp2_with (first | (go_at_call 18; (with_reducible refine seq_gw ((refEdgeSame_c (o1.out.ext ((Y1.out.trans hX).trans g5.grown)).ew (o2.out.ext ((Y2.out.trans hX).trans g5.grown)).ew).mono (R' := fun e w' => e = .returned (.bool true) ∧ Ext g5.val w') (fun e w' ⟨h1, h2⟩ => ⟨by rw [h1, hM1.out, hM2.out]; simp, h2⟩)) ?_); intro g6) | (go_at_call 16; (with_reducible refine seq_gw ((refPieceSame_c (o3.out.ext (((Y3.out.trans hX).trans g5.grown).trans g6.grown)).ew (o4.out.ext ((hX.trans g5.grown).trans g6.grown)).ew).mono (R' := fun e w' => e = .returned (.bool true) ∧ Ext g6.val w') (fun e w' ⟨h1, h2⟩ => ⟨by rw [h1, hM3.out, hM4.out]; simp, h2⟩)) ?_); intro g7) | (go_at_call 24; (with_reducible refine seq_gw ((pieceSame_c (o3.out.ext ((((Y3.out.trans hX).trans g5.grown).trans g6.grown).trans g7.grown)).ew (o4.out.ext (((hX.trans g5.grown).trans g6.grown).trans g7.grown)).ew).mono (R' := fun e w' => e = .returned (.bool true) ∧ Ext g7.val w') (fun e w' ⟨h1, h2⟩ => ⟨by rw [h1, hM3.out, hM4.out]; simp, h2⟩)) ?_); intro g8) | (go_at_call 11; first | ((with_reducible refine seq_gw' (pakLive_c _) ?_); intro g5) | ((with_reducible refine seq_gw (pakLive_c _) ?_); intro g5)))
        go_returns
        exact ⟨by first | rfl | simp, (((hXw.out.trans g5.grown).trans g6.grown).trans g7.grown).trans g8.grown⟩
  · rw [decide_eq_false hl] at hfew
    obtain ⟨VA, acap, rfl, -, -, -⟩ := ew_form h
    clear h hl
    go_enter Tryz.func5, Tryz.ntmps5
    go_wp2_with (first | (go_at_call 10; (with_reducible refine seq_gw hfew.out ?_); intro g0) | (go_at_call 11; first | ((with_reducible refine seq_gw' (pakLive_c _) ?_); intro g5) | ((with_reducible refine seq_gw (pakLive_c _) ?_); intro g5)))
    go_returns
    exact ⟨by first | rfl | simp, g5.grown⟩

theorem own : ownKnob Tryz.prog.godebug = none := by kernel_rfl
theorem laidOut : laidOutB Tryz.prog = true := by kernel_rfl
set_option maxRecDepth 100000 in
theorem lifted (os : Os) (started : os.Started) (H : Type) (enc : TypeId × Value → H) :
    ReturnsInHanded {} Tryz.checked os 5 .any (Rows.packEdgesSpec.pre6 enc Tryz.prog Tryz.f5 Rows.packEdgesRow.domain false) (Rows.packEdgesSpec.post enc Tryz.prog Tryz.f5 false true false false) := by
  refine returnsInHanded_of_change_sized (C := Tryz.checked) own started (by kernel_rfl) Tryz.func5
    (ChangeSpec.witness6 (enc := enc) (C := Tryz.checked) false ⟨#[], #[.slice none 0 0], []⟩ 8 (by kernel_rfl) (by kernel_rfl) (by kernel_rfl) (by kernel_rfl)) ?_
  intro W base args ds gs before hval0 hW hcnd hsz0 _
  have hsz : (DataW.weightsEach Tryz.prog (Tryz.f5.params.toList ++ Rows.packEdgesSpec.plain.varTypes Tryz.prog) (ds ++ gs)).all (· ≤ reachBytes) = true := hsz0
  clear hsz0
  have hval : ∀ (j : Nat) t v, Tryz.f5.params[j]? = some t → args[j]? = some v → Value.okWide Tryz.prog W .any base t v := hval0
  have hW' := hW
  obtain ⟨p, q, hA0, hV, rfl, hfz, hnd⟩ := hW
  have hA : DataW.TrodAll enc Tryz.prog W 0 (fun _ => true) true Tryz.f5.params.toList args.toList ds p := hA0
  rw [Tryz.params5] at hA hval hsz
  obtain ⟨v0, vs0, d0, ds0, p0, q0, hargs, rfl, rfl, h0, r0⟩ := trodAll_cons hA
  obtain ⟨rfl, rfl, rfl⟩ := trodAll_nil r0
  obtain rfl : args = #[v0] := by cases args; simp_all
  obtain ⟨rfl, rfl⟩ := trodVars_none hV
  have k0 := h0
  have lt0 : ∀ x ∈ p0, x.block < W.heap.size := by obtain ⟨m, hm⟩ := k0; exact DataW.trod_lt m _ _ _ hm
  obtain ⟨A0, n0, c0, rfl⟩ := okWide_slice Tryz.underlying33 (hval 0 33 v0 rfl rfl)
  have ⟨m0, hm0⟩ := h0
  obtain ⟨l, ll, hl, bl⟩ := open_pieces Tryz.underlying33 Tryz.underlying48 (by kernel_rfl) rfl rfl (by kernel_rfl) (by kernel_rfl) Tryz.underlying46 Tryz.underlying30 rfl rfl (by kernel_rfl) (by kernel_rfl) Tryz.underlying3 Tryz.underlying3 Tryz.underlying85 (by kernel_rfl) rfl rfl rfl (by kernel_rfl) (by kernel_rfl) (by kernel_rfl) Tryz.underlying83 Tryz.underlying3 Tryz.underlying9 hm0
  have yl : ∀ p ∈ l, p.2.1.length * 32 ≤ 140737488351232 := fun p hp => by
    have e32 : Tryz.prog.bytesOf 85 = 32 := by kernel_rfl
    rcases bl p hp with h0 | ⟨d, hd, hle⟩
    · omega
    · have := List.all_eq_true.1 hsz d (DataW.weights_mem_each (j := 0) (t := 33) rfl rfl d hd)
      rw [decide_eq_true_iff] at this
      rw [e32] at hle
      exact Nat.le_trans hle this
  have zl : l.length * 40 ≤ 140737488351232 := by rw [ll]; exact sized_elems hsz (j := 0) (t := 33) (e := 48) rfl rfl Tryz.underlying33 (by kernel_rfl)
  clear hA0 hval0
  refine (walk l _ W hl).mono fun e W' ⟨he, bel⟩ => ?_
  subst he
  exact ⟨_, rfl, _, _, _, [], _, [], hW', trodAll_mk1 (shut_bool Tryz.underlying4 _), (trodAll_cons_mk (Below.trod laidOut (by kernel_rfl) (of_decide_eq_true (by kernel_rfl)) k0 bel lt0) trodAll_mk0), rfl, bel.frame _, fun h => by cases h⟩

theorem over : Rows.packEdgesRow.holds Tryz.pinned (OpenSpec.ofChange Rows.packEdgesSpec) :=
  OpenClaim.holds_of_wide 5 Tryz.f5 rfl rfl rfl rfl rfl rfl rfl ⟨rfl, rfl, rfl, rfl, rfl⟩ rfl rfl rfl rfl rfl (by kernel_rfl) Tryz.func5 (by kernel_rfl)
    (of_decide_eq_true (by kernel_rfl)) (by unfold Func.isWrapper; first | (rw [if_pos (by decide +kernel)]; kernel_rfl) | (rw [if_neg (by decide +kernel)]; exact ⟨rfl, rfl⟩))
    (fun os started H enc _ => lifted os started H enc)

theorem packEdges_holds : Rows.PackEdgesSaid := over
end Go.Proofs.YtgniebjigphcgaaGreat.packEdges
