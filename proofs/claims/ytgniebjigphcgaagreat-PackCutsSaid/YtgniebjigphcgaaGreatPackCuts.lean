/-
  Layer 11 (pack), 11.3: for every list of pieces, and tick, what of pieces is ahead of the tick, and from it on, is as the document says. No condition.
-/
import Derived.Test.YtgniebjigphcgaaGreatPakG
import Derived.Test.YtgniebjigphcgaaGreatPakW
import Derived.Test.YtgniebjigphcgaaGreatArgP
import Derived.WalkKit
import Derived.ProofKit
import Derived.OpenShut
import Derived.ShutString
import Derived.ChangeOld
import Derived.Below
import Derived.Lib.SmallJoins
import Derived.SizedLaws
import Derived.Deep.CondSized
import Derived.JoinedCond
set_option linter.unusedVariables false
set_option linter.unusedSimpArgs false
namespace Go.Proofs.YtgniebjigphcgaaGreat.packCuts
open Go.ChangeShapes Go.WideShapes Go.ChangeAt Go.RowKit Go.Joins
open Go.ChangeMaps (open_string shut_string)
attribute [local go_sem] GW.cell GW.frozen In.eq_true In.le_true In.ne In.ne' In.ne_add In.ne_add' In.lt_add Upto.le_true Upto.le_add Upto.lt_add
set_option maxHeartbeats 8000000 in
set_option maxRecDepth 100000 in
theorem walk (l : List Ve) (hz : l.length * 40 ≤ 140737488351232) (hr : ∀ p ∈ l, p.2.1.length * 32 ≤ 140737488351232) (t : Int) (v : Value) (w : World) (h : Ew w [] v l) : Calls Tryz.prog 8 #[v, .int .i64 t] w fun e w' => e = .returned (.bool true) ∧ Ext w w' := by
  have hA := hide (fun w' (hX : Ext w w') => packAhead_c l t hz hr v w' (h.ext hX))
  have hB := hide (fun w' (hX : Ext w w') => refPcAhead_c l t hz hr v w' (h.ext hX))
  have hC := hide (fun w' (hX : Ext w w') => packRest_c l t hz hr v w' (h.ext hX))
  have hD := hide (fun w' (hX : Ext w w') => refPcRest_c l t hz hr v w' (h.ext hX))
  have hE := hide (fun w' (hX : Ext w w') => pieceSame_c (h.ext hX) (h.ext hX))
  obtain ⟨VA, acap, rfl, -, -, -⟩ := ew_form h
  generalize (eds l).flatMap (pcAh t) = Ra at *
  generalize (eds l).flatMap (pcRe t) = Rb at *
  clear h hr
  go_enter Tryz.func8, Tryz.ntmps8
  go_wp2_with (first | (go_at_call 11; first | ((with_reducible refine seq_gw' (pakLive_c _) ?_); intro g0) | ((with_reducible refine seq_gw (pakLive_c _) ?_); intro g0)) | (go_at_call 28; refine (hA.out _ g0.grown).mono ?_; rintro ee w1a ⟨v1a, M1a, rfl, hM1a, o1a, x1a⟩; have X1a := hide (g0.grown.trans x1a); obtain ⟨AM1a, cM1a, qM1a⟩ := own_form o1a.1; subst qM1a) | (go_at_call 29; refine (hB.out _ X1a.out).mono ?_; rintro ee w1b ⟨v1b, M1b, rfl, hM1b, o1b, x1b⟩; have X1b := hide (X1a.out.trans x1b); obtain ⟨AM1b, cM1b, qM1b⟩ := own_form o1b.1; subst qM1b) | (go_at_call 16; (with_reducible refine seq_gw ((refPieceSame_c (L := M1a) (M := M1b) ((o1a.ext x1b).ew) o1b.ew).mono (R' := fun e w' => e = .returned (.bool true) ∧ Ext w1b w') (fun e w' ⟨h1, h2⟩ => ⟨by rw [h1, hM1a, hM1b]; simp, h2⟩)) ?_); intro g1; have Y1 := hide (X1b.out.trans g1.grown)) | (go_at_call 30; refine (hC.out _ Y1.out).mono ?_; rintro ee w2a ⟨v2a, M2a, rfl, hM2a, o2a, x2a⟩; have X2a := hide (Y1.out.trans x2a); obtain ⟨AM2a, cM2a, qM2a⟩ := own_form o2a.1; subst qM2a) | (go_at_call 31; refine (hD.out _ X2a.out).mono ?_; rintro ee w2b ⟨v2b, M2b, rfl, hM2b, o2b, x2b⟩; have X2b := hide (X2a.out.trans x2b); obtain ⟨AM2b, cM2b, qM2b⟩ := own_form o2b.1; subst qM2b) | (go_at_call 16; (with_reducible refine seq_gw ((refPieceSame_c (L := M2a) (M := M2b) ((o2a.ext x2b).ew) o2b.ew).mono (R' := fun e w' => e = .returned (.bool true) ∧ Ext w2b w') (fun e w' ⟨h1, h2⟩ => ⟨by rw [h1, hM2a, hM2b]; simp, h2⟩)) ?_); intro g2; have Y2 := hide (X2b.out.trans g2.grown)) | (go_at_call 24; (with_reducible refine seq_gw ((hE.out _ Y2.out).mono (R' := fun e w' => e = .returned (.bool true) ∧ Ext _ w') (fun e w' ⟨h1, h2⟩ => ⟨by rw [h1]; simp, h2⟩)) ?_); intro g9))
  go_returns
  exact ⟨by first | rfl | simp, Y2.out.trans g9.grown⟩

theorem own : ownKnob Tryz.prog.godebug = none := by kernel_rfl
theorem laidOut : laidOutB Tryz.prog = true := by kernel_rfl
set_option maxRecDepth 100000 in
theorem lifted (os : Os) (started : os.Started) (H : Type) (enc : TypeId × Value → H) :
    ReturnsInHanded {} Tryz.checked os 8 .any (Rows.packCutsSpec.pre6 enc Tryz.prog Tryz.f8 Rows.packCutsRow.domain false) (Rows.packCutsSpec.post enc Tryz.prog Tryz.f8 false true false false) := by
  refine returnsInHanded_of_change_sized (C := Tryz.checked) own started (by kernel_rfl) Tryz.func8
    (ChangeSpec.witness6 (enc := enc) (C := Tryz.checked) false ⟨#[], #[.slice none 0 0, .int .i64 0], []⟩ 8 (by kernel_rfl) (by kernel_rfl) (by kernel_rfl) (by kernel_rfl)) ?_
  intro W base args ds gs before hval0 hW hcnd hsz0 _
  have hsz : (DataW.weightsEach Tryz.prog (Tryz.f8.params.toList ++ Rows.packCutsSpec.plain.varTypes Tryz.prog) (ds ++ gs)).all (· ≤ reachBytes) = true := hsz0
  clear hsz0
  have hval : ∀ (j : Nat) t v, Tryz.f8.params[j]? = some t → args[j]? = some v → Value.okWide Tryz.prog W .any base t v := hval0
  have hW' := hW
  obtain ⟨p, q, hA0, hV, rfl, hfz, hnd⟩ := hW
  have hA : DataW.TrodAll enc Tryz.prog W 0 (fun _ => true) true Tryz.f8.params.toList args.toList ds p := hA0
  rw [Tryz.params8] at hA hval hsz
  obtain ⟨v0, vs0, d0, ds0, p0, q0, hargs, rfl, rfl, h0, r0⟩ := trodAll_cons hA
  obtain ⟨v1, vs1, d1, ds1, p1, q1, rfl, rfl, rfl, h1, r1⟩ := trodAll_cons r0
  obtain ⟨rfl, rfl, rfl⟩ := trodAll_nil r1
  obtain rfl : args = #[v0, v1] := by cases args; simp_all
  obtain ⟨rfl, rfl⟩ := trodVars_none hV
  have k0 := h0
  have lt0 : ∀ x ∈ p0, x.block < W.heap.size := by obtain ⟨m, hm⟩ := k0; exact DataW.trod_lt m _ _ _ hm
  obtain ⟨A0, n0, c0, rfl⟩ := okWide_slice Tryz.underlying33 (hval 0 33 v0 rfl rfl)
  have ⟨m0, hm0⟩ := h0
  obtain ⟨l, ll, hl, bl⟩ := open_pieces Tryz.underlying33 Tryz.underlying48 (by kernel_rfl) rfl rfl (by kernel_rfl) (by kernel_rfl) Tryz.underlying46 Tryz.underlying30 rfl rfl (by kernel_rfl) (by kernel_rfl) Tryz.underlying3 Tryz.underlying3 Tryz.underlying85 (by kernel_rfl) rfl rfl rfl (by kernel_rfl) (by kernel_rfl) (by kernel_rfl) Tryz.underlying83 Tryz.underlying3 Tryz.underlying9 hm0
  have yl : ∀ p ∈ l, p.2.1.length * 32 ≤ 140737488351232 := fun p hp => by
    have e32 : Tryz.prog.bytesOf 85 = 32 := by kernel_rfl
    rcases bl p hp with h0 | ⟨d, hd, hle⟩
    · omega
    · have := List.all_eq_true.1 hsz d (DataW.weights_mem_each (j := 0) (t := 33) rfl rfl d hd)
      rw [decide_eq_true_iff] at this
      rw [e32] at hle
      exact Nat.le_trans hle this
  have zl : l.length * 40 ≤ 140737488351232 := by rw [ll]; exact sized_elems hsz (j := 0) (t := 33) (e := 48) rfl rfl Tryz.underlying33 (by kernel_rfl)
  have k1 := h1
  have lt1 : ∀ x ∈ p1, x.block < W.heap.size := by obtain ⟨m, hm⟩ := k1; exact DataW.trod_lt m _ _ _ hm
  obtain ⟨t, rfl, _, _, wt⟩ := open_int Tryz.underlying3 (hval 1 3 v1 rfl rfl) h1
  have ht := wf_i64 wt
  clear hA0 hval0
  refine (walk l zl yl t _ W hl).mono fun e W' ⟨he, bel⟩ => ?_
  subst he
  exact ⟨_, rfl, _, _, _, [], _, [], hW', trodAll_mk1 (shut_bool Tryz.underlying4 _), (trodAll_cons_mk (Below.trod laidOut (by kernel_rfl) (of_decide_eq_true (by kernel_rfl)) k0 bel lt0) (trodAll_cons_mk (Below.trod laidOut (by kernel_rfl) (of_decide_eq_true (by kernel_rfl)) k1 bel lt1) trodAll_mk0)), rfl, bel.frame _, fun h => by cases h⟩

theorem over : Rows.packCutsRow.holds Tryz.pinned (OpenSpec.ofChange Rows.packCutsSpec) :=
  OpenClaim.holds_of_wide 8 Tryz.f8 rfl rfl rfl rfl rfl rfl rfl ⟨rfl, rfl, rfl, rfl, rfl⟩ rfl rfl rfl rfl rfl (by kernel_rfl) Tryz.func8 (by kernel_rfl)
    (of_decide_eq_true (by kernel_rfl)) (by unfold Func.isWrapper; first | (rw [if_pos (by decide +kernel)]; kernel_rfl) | (rw [if_neg (by decide +kernel)]; exact ⟨rfl, rfl⟩))
    (fun os started H enc _ => lifted os started H enc)

theorem packCuts_holds : Rows.PackCutsSaid := over
end Go.Proofs.YtgniebjigphcgaaGreat.packCuts
