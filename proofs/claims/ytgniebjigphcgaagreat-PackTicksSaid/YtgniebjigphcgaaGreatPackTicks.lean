/-
  Layer 11 (pack), 11.1 and 11.2: for every list of pieces (of which those of up to 200 count), and place, at each place there are as many copies of a row, packed, as there were pieces of it ahead. No condition.
-/
import Derived.Test.YtgniebjigphcgaaGreatArgP
import Derived.WalkKit
import Derived.ProofKit
import Derived.OpenShut
import Derived.ShutString
import Derived.ChangeOld
import Derived.Below
import Derived.Lib.SmallJoins
import Derived.SizedLaws
import Derived.Deep.CondSized
import Derived.JoinedCond
set_option linter.unusedVariables false
set_option linter.unusedSimpArgs false
namespace Go.Proofs.YtgniebjigphcgaaGreat.packTicks
open Go.ChangeShapes Go.WideShapes Go.ChangeAt Go.RowKit Go.Joins
open Go.ChangeMaps (open_string shut_string)
attribute [local go_sem] GW.cell GW.frozen In.eq_true In.le_true In.ne In.ne' In.ne_add In.ne_add' In.lt_add Upto.le_true Upto.le_add Upto.lt_add
set_option maxHeartbeats 8000000 in
set_option maxRecDepth 100000 in
theorem walk (l : List Ve) (t : Int) (v : Value) (w : World) (h : Ew w [] v l) : Calls Tryz.prog 7 #[v, .int .i64 t] w fun e w' => e = .returned (.bool true) ∧ Ext w w' := by
  by_cases hl : l.length ≤ 200
  · have hlI : ¬ (200 : Int) < l.length := by omega
    by_cases ht1 : t < -1
    · have d1 : decide (t < -1) = true := decide_eq_true ht1
      obtain ⟨VA, acap, rfl, -, -, -⟩ := ew_form h
      clear h
      go_enter Tryz.func7, Tryz.ntmps7
      go_wp2_with (go_at_call 11; first | ((with_reducible refine seq_gw' (pakLive_c _) ?_); intro g5) | ((with_reducible refine seq_gw (pakLive_c _) ?_); intro g5))
      go_returns
      exact ⟨by first | rfl | simp, g5.grown⟩
    have d1 : decide (t < -1) = false := decide_eq_false ht1
    by_cases ht2 : 1125899906842624 ≤ t
    · have d2 : decide (1125899906842624 ≤ t) = true := decide_eq_true ht2
      obtain ⟨VA, acap, rfl, -, -, -⟩ := ew_form h
      clear h
      go_enter Tryz.func7, Tryz.ntmps7
      go_wp2_with (go_at_call 11; first | ((with_reducible refine seq_gw' (pakLive_c _) ?_); intro g5) | ((with_reducible refine seq_gw (pakLive_c _) ?_); intro g5))
      go_returns
      exact ⟨by first | rfl | simp, g5.grown⟩
    have d2 : decide (1125899906842624 ≤ t) = false := decide_eq_false ht2
    have hA := hide (fun w' (hX : Ext w w') => packPack_c l (by omega) v w' (h.ext hX))
    have hB := hide (fun w' (hX : Ext w w') => packEdges_c l (by omega) v w' (h.ext hX))
    rw [pp_eq] at hA
    have hl0 := hide h
    obtain ⟨VA, acap, rfl, hlc, hlm, hat⟩ := ew_form h
    unfold maxLen at hlm
    replace hat := hide hat
    clear h
    by_cases he : pkE (eds l) = 0
    · rw [he] at hA hB
      have hal : Hid (∀ r, aliveL r t (ppR (eds l)) = aliveL r t (eds l) ∧ atV (if mayE (pkR (eds l)) then jmps (pkR (eds l)) r else []) t = aliveL r t (eds l)) := fun r => by
        obtain ⟨k1, k2⟩ := alive_pack he r (t := t) (by omega)
        have hE := (pk_zero he).2.2.1
        refine ⟨k1, ?_⟩
        rw [if_pos hE]
        unfold atV
        rw [if_pos (mayJ_rows hE r), k2]
      have hlen : Hid (∀ M : List Ve, eds M = ppR (eds l) → M.length ≤ 4096) := fun M hM => by
        have h1 := (pp_once he (List.Perm.refl _)).2.2
        rw [← hM] at h1
        simp only [eds, List.length_map] at h1
        omega
      generalize ppR (eds l) = R1 at *
      generalize pkR (eds l) = R2 at *
      have hne : ((0 : Int) != 0) = false := by decide
      clear he
      go_enter Tryz.func7, Tryz.ntmps7
      go_wp2_with (first | (go_at_call 20; refine (hA.out _ (Ext.refl _)).mono ?_; rintro ee w1 ⟨v1, M1, rfl, hM1, o1, x1⟩; have X1 := hide ((Ext.refl w).trans x1); obtain ⟨AM1, cM1, qM1⟩ := own_form o1.1; subst qM1) | (go_at_call 17; refine (hB.out _ X1.out).mono ?_; rintro ee w2 ⟨v2, M2, rfl, hM2, o2, x2⟩; have X2 := hide (X1.out.trans x2); obtain ⟨AM2, cM2, qM2⟩ := own_form o2.1; subst qM2))
      have hl1 := hlen.out M1 hM1
      replace o1 := hide o1
      replace o2 := hide o2
      replace x2 := hide x2
      replace hM1 := hide hM1
      replace hM2 := hide hM2
      clear hA hB hlen
      go_loopg [9] l.length (fun gh i wr => ∃ (k : Nat), i = .int .i64 k ∧ k + gh = l.length ∧ Ext w2 wr)
      case atStart => exact ⟨0, rfl, by omega, Ext.refl _⟩
      case round =>
        obtain ⟨k, rfl, hk, hX⟩ := hrel
        by_cases hlt : k < l.length
        · obtain ⟨x, hx⟩ : ∃ x, l[k]? = some x := ⟨_, List.getElem?_eq_getElem hlt⟩
          obtain ⟨b, o, rfl, -, hb, c0, c1, c2⟩ := hat.out k x hx
          have hXw := X2.out.trans hX
          have k0 := cell_later hXw c0
          have hbr : b < wr.heap.size := block_lt_of_cell k0
          haveI : In b wr := ⟨hbr⟩
          have hrw := Sl.ext (hl0.out.2 x (List.mem_of_getElem? hx)) hXw
          obtain ⟨xv, xq, xa, xn⟩ := x
          simp only at k0 hrw
          have hC1 := hide (fun w' (hX' : Ext wr w') => refAlive_c l (by omega) xq t _ xv w' (hl0.out.ext (hXw.trans hX')) (Sl.ext hrw hX'))
          have hC2 := hide (fun w' (hX' : Ext wr w') => refAlive_c M1 hl1 xq t _ xv w' (o1.out.ext ((x2.out.trans hX).trans hX')).ew (Sl.ext hrw hX'))
          have hJ := hide (fun w' (hX' : Ext wr w') => edgeJumps_c M2 xq _ xv w' (o2.out.ext (hX.trans hX')).ew (Sl.ext hrw hX'))
          obtain ⟨e1, e2⟩ := hal.out xq
          rw [hM1.out, e1] at hC2
          rw [hM2.out] at hJ
          generalize aliveL xq t (eds l) = nn at *
          have hat4 := hide e2
          obtain ⟨XA, xcap, rfl⟩ := rw_val hrw
          have bm : (nn != nn) = false := by simp
          have hltI : (k : Int) < l.length := by omega
          clear c0 c1 c2 hx hat hrw hXw e1 e2 hal hl0
          generalize (if mayE R2 then jmps R2 xq else []) = J2 at *
          go_wp2_with (first | (go_at_call 25; (with_reducible refine seq_gw (hC1.out _ (Ext.refl _)) ?_); intro g1) | (go_at_call 25; (with_reducible refine seq_gw' (hC2.out _ g1.grown) ?_); intro g2) | (go_at_call 27; refine (hJ.out _ g2.grown).mono ?_; rintro ee w5 ⟨v5, rfl, hj5, x5⟩; have X5 := hide (g2.grown.trans x5); have hAt := hide (refStepAt_c _ t v5 w5 hj5); rw [hat4.out] at hAt; obtain ⟨B5, c5, e5, -, -, -⟩ := jw_form hj5; subst e5; clear hj5) | (go_at_call 26; (with_reducible refine seq_gw hAt.out ?_); intro g6))
          go_roundg (l.length - (k + 1))
          case measure => omega
          case rel => exact ⟨k + 1, by go_num, by omega, (hX.trans X5.out).trans g6.grown⟩
        · have hge : (l.length : Int) ≤ k := by omega
          have hXw := hide (X2.out.trans hX)
          clear hat hal
          go_wp2_with (go_at_call 11; first | ((with_reducible refine seq_gw' (pakLive_c _) ?_); intro g5) | ((with_reducible refine seq_gw (pakLive_c _) ?_); intro g5))
          go_returns
          exact ⟨by first | rfl | simp, hXw.out.trans g5.grown⟩
    · have hne : (pkE (eds l) != 0) = true := by simp [he]
      generalize pkE (eds l) = E1 at *
      generalize ppR (eds l) = R1 at *
      generalize pkR (eds l) = R2 at *
      have be : (E1 == E1) = true := by simp
      clear he hat
      go_enter Tryz.func7, Tryz.ntmps7
      go_wp2_with (first | (go_at_call 20; refine (hA.out _ (Ext.refl _)).mono ?_; rintro ee w1 ⟨v1, M1, rfl, hM1, o1, x1⟩; have X1 := hide ((Ext.refl w).trans x1); obtain ⟨AM1, cM1, qM1⟩ := own_form o1.1; subst qM1) | (go_at_call 17; refine (hB.out _ X1.out).mono ?_; rintro ee w2 ⟨v2, M2, rfl, hM2, o2, x2⟩; have X2 := hide (X1.out.trans x2); obtain ⟨AM2, cM2, qM2⟩ := own_form o2.1; subst qM2) | (go_at_call 11; first | ((with_reducible refine seq_gw' (pakLive_c _) ?_); intro g5) | ((with_reducible refine seq_gw (pakLive_c _) ?_); intro g5)))
      go_returns
      exact ⟨by first | rfl | simp, X2.out.trans g5.grown⟩
  · have hlI : (200 : Int) < l.length := by omega
    obtain ⟨VA, acap, rfl, -, -, -⟩ := ew_form h
    clear h hl
    go_enter Tryz.func7, Tryz.ntmps7
    go_wp2_with (go_at_call 11; first | ((with_reducible refine seq_gw' (pakLive_c _) ?_); intro g5) | ((with_reducible refine seq_gw (pakLive_c _) ?_); intro g5))
    go_returns
    exact ⟨by first | rfl | simp, g5.grown⟩

theorem own : ownKnob Tryz.prog.godebug = none := by kernel_rfl
theorem laidOut : laidOutB Tryz.prog = true := by kernel_rfl
set_option maxRecDepth 100000 in
theorem lifted (os : Os) (started : os.Started) (H : Type) (enc : TypeId × Value → H) :
    ReturnsInHanded {} Tryz.checked os 7 .any (Rows.packTicksSpec.pre6 enc Tryz.prog Tryz.f7 Rows.packTicksRow.domain false) (Rows.packTicksSpec.post enc Tryz.prog Tryz.f7 false true false false) := by
  refine returnsInHanded_of_change_sized (C := Tryz.checked) own started (by kernel_rfl) Tryz.func7
    (ChangeSpec.witness6 (enc := enc) (C := Tryz.checked) false ⟨#[], #[.slice none 0 0, .int .i64 0], []⟩ 8 (by kernel_rfl) (by kernel_rfl) (by kernel_rfl) (by kernel_rfl)) ?_
  intro W base args ds gs before hval0 hW hcnd hsz0 _
  have hsz : (DataW.weightsEach Tryz.prog (Tryz.f7.params.toList ++ Rows.packTicksSpec.plain.varTypes Tryz.prog) (ds ++ gs)).all (· ≤ reachBytes) = true := hsz0
  clear hsz0
  have hval : ∀ (j : Nat) t v, Tryz.f7.params[j]? = some t → args[j]? = some v → Value.okWide Tryz.prog W .any base t v := hval0
  have hW' := hW
  obtain ⟨p, q, hA0, hV, rfl, hfz, hnd⟩ := hW
  have hA : DataW.TrodAll enc Tryz.prog W 0 (fun _ => true) true Tryz.f7.params.toList args.toList ds p := hA0
  rw [Tryz.params7] at hA hval hsz
  obtain ⟨v0, vs0, d0, ds0, p0, q0, hargs, rfl, rfl, h0, r0⟩ := trodAll_cons hA
  obtain ⟨v1, vs1, d1, ds1, p1, q1, rfl, rfl, rfl, h1, r1⟩ := trodAll_cons r0
  obtain ⟨rfl, rfl, rfl⟩ := trodAll_nil r1
  obtain rfl : args = #[v0, v1] := by cases args; simp_all
  obtain ⟨rfl, rfl⟩ := trodVars_none hV
  have k0 := h0
  have lt0 : ∀ x ∈ p0, x.block < W.heap.size := by obtain ⟨m, hm⟩ := k0; exact DataW.trod_lt m _ _ _ hm
  obtain ⟨A0, n0, c0, rfl⟩ := okWide_slice Tryz.underlying33 (hval 0 33 v0 rfl rfl)
  have ⟨m0, hm0⟩ := h0
  obtain ⟨l, ll, hl, bl⟩ := open_pieces Tryz.underlying33 Tryz.underlying48 (by kernel_rfl) rfl rfl (by kernel_rfl) (by kernel_rfl) Tryz.underlying46 Tryz.underlying30 rfl rfl (by kernel_rfl) (by kernel_rfl) Tryz.underlying3 Tryz.underlying3 Tryz.underlying85 (by kernel_rfl) rfl rfl rfl (by kernel_rfl) (by kernel_rfl) (by kernel_rfl) Tryz.underlying83 Tryz.underlying3 Tryz.underlying9 hm0
  have yl : ∀ p ∈ l, p.2.1.length * 32 ≤ 140737488351232 := fun p hp => by
    have e32 : Tryz.prog.bytesOf 85 = 32 := by kernel_rfl
    rcases bl p hp with h0 | ⟨d, hd, hle⟩
    · omega
    · have := List.all_eq_true.1 hsz d (DataW.weights_mem_each (j := 0) (t := 33) rfl rfl d hd)
      rw [decide_eq_true_iff] at this
      rw [e32] at hle
      exact Nat.le_trans hle this
  have zl : l.length * 40 ≤ 140737488351232 := by rw [ll]; exact sized_elems hsz (j := 0) (t := 33) (e := 48) rfl rfl Tryz.underlying33 (by kernel_rfl)
  have k1 := h1
  have lt1 : ∀ x ∈ p1, x.block < W.heap.size := by obtain ⟨m, hm⟩ := k1; exact DataW.trod_lt m _ _ _ hm
  obtain ⟨t, rfl, _, _, wt⟩ := open_int Tryz.underlying3 (hval 1 3 v1 rfl rfl) h1
  have ht := wf_i64 wt
  clear hA0 hval0
  refine (walk l t _ W hl).mono fun e W' ⟨he, bel⟩ => ?_
  subst he
  exact ⟨_, rfl, _, _, _, [], _, [], hW', trodAll_mk1 (shut_bool Tryz.underlying4 _), (trodAll_cons_mk (Below.trod laidOut (by kernel_rfl) (of_decide_eq_true (by kernel_rfl)) k0 bel lt0) (trodAll_cons_mk (Below.trod laidOut (by kernel_rfl) (of_decide_eq_true (by kernel_rfl)) k1 bel lt1) trodAll_mk0)), rfl, bel.frame _, fun h => by cases h⟩

theorem over : Rows.packTicksRow.holds Tryz.pinned (OpenSpec.ofChange Rows.packTicksSpec) :=
  OpenClaim.holds_of_wide 7 Tryz.f7 rfl rfl rfl rfl rfl rfl rfl ⟨rfl, rfl, rfl, rfl, rfl⟩ rfl rfl rfl rfl rfl (by kernel_rfl) Tryz.func7 (by kernel_rfl)
    (of_decide_eq_true (by kernel_rfl)) (by unfold Func.isWrapper; first | (rw [if_pos (by decide +kernel)]; kernel_rfl) | (rw [if_neg (by decide +kernel)]; exact ⟨rfl, rfl⟩))
    (fun os started H enc _ => lifted os started H enc)

theorem packTicks_holds : Rows.PackTicksSaid := over
end Go.Proofs.YtgniebjigphcgaaGreat.packTicks
