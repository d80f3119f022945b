/-
  Layer 7 (schema), 7.2: for every two schemas, and columns, schemas one behind the other, and columns picked out of them, are those that the document says. No condition.
-/
import Derived.Test.YtbapkkijfmdcoaaSchL
import Derived.Test.YtbapkkijfmdcoaaArgC
import Derived.WalkKit
import Derived.ProofKit
import Derived.OpenShut
import Derived.ShutString
import Derived.ChangeOld
import Derived.Below
import Derived.Lib.SmallJoins
import Derived.SizedLaws
import Derived.Deep.CondSized
import Derived.JoinedCond
set_option linter.unusedVariables false
set_option linter.unusedSimpArgs false
namespace Go.Proofs.Ytbapkkijfmdcoaa.schemaParts
open Go.ChangeShapes Go.WideShapes Go.ChangeAt Go.RowKit Go.Joins
open Go.ChangeMaps (open_string shut_string)
attribute [local go_sem] GW.cell GW.frozen In.eq_true In.le_true In.ne In.ne' In.ne_add In.ne_add' In.lt_add Upto.le_true Upto.le_add Upto.lt_add

set_option maxHeartbeats 8000000 in
set_option maxRecDepth 100000 in
theorem walk (a b : List Cl) (cs : List Int) (v1 v2 v3 : Value) (w : World) (ha : Cw w [] v1 a) (hb : Cw w [] v2 b) (hc : Sl w [] 1 v3 cs.length (ic cs)) : Calls Try.prog 5 #[v1, v2, v3] w fun e w' => e = .returned (.bool true) ∧ Ext w w' := by
  have hj := hide (joinS_c a b v1 v2 w ha hb)
  have hk := hide (fun w' (hX : Ext w w') => refJoinS_c a b v1 v2 w' (Sl.ext ha hX) (Sl.ext hb hX))
  have hp := hide (fun w' (hX : Ext w w') => pickS_c a cs v1 v3 w' (Sl.ext ha hX) (Sl.ext hc hX))
  have hq := hide (fun w' (hX : Ext w w') => refPickS_c a cs v1 v3 w' (Sl.ext ha hX) (Sl.ext hc hX))
  generalize joinSE a b = E1 at *
  generalize joinSV a b = J at *
  generalize pickSE a cs = E2 at *
  generalize pickSV a cs = P at *
  have sJ : eqP (fun x y : Cl => decide (x = y)) J J = true := by rw [eqP_dec]; simp
  have sP : eqP (fun x y : Cl => decide (x = y)) P P = true := by rw [eqP_dec]; simp
  replace sJ := hide sJ
  replace sP := hide sP
  clear ha hb hc
  go_enter Try.func5, Try.ntmps5
  go_wp2_with (first
    | (go_at_call 23; refine (hk.out _ x1).mono ?_; rintro ee w2 ⟨u2, rfl, o2, x2⟩; have X2 := x1.trans x2)
    | (go_at_call 22; refine hj.out.mono ?_; rintro ee w1 ⟨u1, rfl, o1, x1⟩)
    | (go_at_call 25; refine (hq.out _ X3).mono ?_; rintro ee w4 ⟨u4, rfl, o4, x4⟩; have X4 := X3.trans x4; have s1 := hide (own_cw (S := []) o1 (by simp)); have s2 := hide (own_cw (S := []) o2 (by simp)); have s3 := hide (own_cw (S := []) o3 (by simp)); have s4 := hide (own_cw (S := []) o4 (by simp)))
    | (go_at_call 24; refine (hp.out _ X2).mono ?_; rintro ee w3 ⟨u3, rfl, o3, x3⟩; have X3 := X2.trans x3)
    | (go_at_call 9; (with_reducible refine seq_gw (schLive_c _) ?_); intro g5)
    | (go_at_call 15; first
      | ((with_reducible refine seq_gw' (refSameS_c (Sl.ext s1.out (x2.trans (x3.trans (x4.trans g5.grown)))) (Sl.ext s2.out (x3.trans (x4.trans g5.grown)))) ?_); intro g6; rw [sJ.out])
      | ((with_reducible refine seq_gw' (refSameS_c (Sl.ext s3.out (x4.trans g6.grown)) (Sl.ext s4.out g6.grown)) ?_); intro g7; rw [sP.out])))
  go_returns
  exact ⟨by first | rfl | simp, X4.trans g7.grown⟩

theorem own : ownKnob Try.prog.godebug = none := by kernel_rfl
theorem laidOut : laidOutB Try.prog = true := by kernel_rfl
set_option maxRecDepth 100000 in
theorem lifted (os : Os) (started : os.Started) (H : Type) (enc : TypeId × Value → H) :
    ReturnsInHanded {} Try.checked os 5 .any (Rows.schemaPartsSpec.pre6 enc Try.prog Try.f5 Rows.schemaPartsRow.domain false) (Rows.schemaPartsSpec.post enc Try.prog Try.f5 false true false false) := by
  refine returnsInHanded_of_change_sized (C := Try.checked) own started (by kernel_rfl) Try.func5
    (ChangeSpec.witness6 (enc := enc) (C := Try.checked) false ⟨#[], #[.slice none 0 0, .slice none 0 0, .slice none 0 0], []⟩ 8 (by kernel_rfl) (by kernel_rfl) (by kernel_rfl) (by kernel_rfl)) ?_
  intro W base args ds gs before hval0 hW hcnd hsz0 _
  have hsz : (DataW.weightsEach Try.prog (Try.f5.params.toList ++ Rows.schemaPartsSpec.plain.varTypes Try.prog) (ds ++ gs)).all (· ≤ reachBytes) = true := hsz0
  clear hsz0
  have hval : ∀ (j : Nat) t v, Try.f5.params[j]? = some t → args[j]? = some v → Value.okWide Try.prog W .any base t v := hval0
  have hW' := hW
  obtain ⟨p, q, hA0, hV, rfl, hfz, hnd⟩ := hW
  have hA : DataW.TrodAll enc Try.prog W 0 (fun _ => true) true Try.f5.params.toList args.toList ds p := hA0
  rw [Try.params5] at hA hval hsz
  obtain ⟨v0, vs0, d0, ds0, p0, q0, hargs, rfl, rfl, h0, r0⟩ := trodAll_cons hA
  obtain ⟨v1, vs1, d1, ds1, p1, q1, rfl, rfl, rfl, h1, r1⟩ := trodAll_cons r0
  obtain ⟨v2, vs2, d2, ds2, p2, q2, rfl, rfl, rfl, h2, r2⟩ := trodAll_cons r1
  obtain ⟨rfl, rfl, rfl⟩ := trodAll_nil r2
  obtain rfl : args = #[v0, v1, v2] := by cases args; simp_all
  obtain ⟨rfl, rfl⟩ := trodVars_none hV
  have k0 := h0
  have lt0 : ∀ x ∈ p0, x.block < W.heap.size := by obtain ⟨m, hm⟩ := k0; exact DataW.trod_lt m _ _ _ hm
  obtain ⟨A0, n0, c0, rfl⟩ := okWide_slice Try.underlying25 (hval 0 25 v0 rfl rfl)
  have ⟨m0, hm0⟩ := h0
  obtain ⟨a, la, ha⟩ := open_cols Try.underlying25 Try.underlying34 (by kernel_rfl) rfl rfl (by kernel_rfl) (by kernel_rfl) Try.underlying9 Try.underlying32 hm0
  have za : a.length * 24 ≤ 140737488351232 := by rw [la]; exact sized_elems hsz (j := 0) (t := 25) (e := 34) rfl rfl Try.underlying25 (by kernel_rfl)
  have k1 := h1
  have lt1 : ∀ x ∈ p1, x.block < W.heap.size := by obtain ⟨m, hm⟩ := k1; exact DataW.trod_lt m _ _ _ hm
  obtain ⟨A1, n1, c1, rfl⟩ := okWide_slice Try.underlying25 (hval 1 25 v1 rfl rfl)
  have ⟨m1, hm1⟩ := h1
  obtain ⟨b, lb, hb⟩ := open_cols Try.underlying25 Try.underlying34 (by kernel_rfl) rfl rfl (by kernel_rfl) (by kernel_rfl) Try.underlying9 Try.underlying32 hm1
  have zb : b.length * 24 ≤ 140737488351232 := by rw [lb]; exact sized_elems hsz (j := 1) (t := 25) (e := 34) rfl rfl Try.underlying25 (by kernel_rfl)
  have k2 := h2
  have lt2 : ∀ x ∈ p2, x.block < W.heap.size := by obtain ⟨m, hm⟩ := k2; exact DataW.trod_lt m _ _ _ hm
  obtain ⟨A2, n2, c2, rfl⟩ := okWide_slice Try.underlying36 (hval 2 36 v2 rfl rfl)
  have ⟨m2, hm2⟩ := h2
  obtain ⟨c, lc, hc⟩ := open_ic Try.underlying36 Try.underlying3 (by kernel_rfl) hm2
  have zc : c.length * 8 ≤ 140737488351232 := by rw [lc]; exact sized_elems hsz (j := 2) (t := 36) (e := 3) rfl rfl Try.underlying36 (by kernel_rfl)
  clear hA0 hval0
  refine (walk a b c _ _ _ W ha hb hc).mono fun e W' ⟨he, bel⟩ => ?_
  subst he
  exact ⟨_, rfl, _, _, _, [], _, [], hW', trodAll_mk1 (shut_bool Try.underlying4 _), (trodAll_cons_mk (Below.trod laidOut (by kernel_rfl) (of_decide_eq_true (by kernel_rfl)) k0 bel lt0) (trodAll_cons_mk (Below.trod laidOut (by kernel_rfl) (of_decide_eq_true (by kernel_rfl)) k1 bel lt1) (trodAll_cons_mk (Below.trod laidOut (by kernel_rfl) (of_decide_eq_true (by kernel_rfl)) k2 bel lt2) trodAll_mk0))), rfl, bel.frame _, fun h => by cases h⟩

theorem over : Rows.schemaPartsRow.holds Try.pinned (OpenSpec.ofChange Rows.schemaPartsSpec) :=
  OpenClaim.holds_of_wide 5 Try.f5 rfl rfl rfl rfl rfl rfl rfl ⟨rfl, rfl, rfl, rfl, rfl⟩ rfl rfl rfl rfl rfl (by kernel_rfl) Try.func5 (by kernel_rfl)
    (of_decide_eq_true (by kernel_rfl)) (by unfold Func.isWrapper; first | (rw [if_pos (by decide +kernel)]; kernel_rfl) | (rw [if_neg (by decide +kernel)]; exact ⟨rfl, rfl⟩))
    (fun os started H enc _ => lifted os started H enc)

theorem schemaParts_holds : Rows.SchemaPartsSaid := over
end Go.Proofs.Ytbapkkijfmdcoaa.schemaParts
