/-
  Layer 7 (schema), 7.1: for every two schemas, and row, which is a schema, which are the same, or alike, which column has a name, and which rows fit, is as the document says. No condition.
-/
import Derived.Test.YtbapkkijfmdcoaaSchL
import Derived.Test.YtbapkkijfmdcoaaArgC
import Derived.WalkKit
import Derived.ProofKit
import Derived.OpenShut
import Derived.ShutString
import Derived.ChangeOld
import Derived.Below
import Derived.Lib.SmallJoins
import Derived.SizedLaws
import Derived.Deep.CondSized
import Derived.JoinedCond
set_option linter.unusedVariables false
set_option linter.unusedSimpArgs false
namespace Go.Proofs.Ytbapkkijfmdcoaa.schemaMay
open Go.ChangeShapes Go.WideShapes Go.ChangeAt Go.RowKit Go.Joins
open Go.ChangeMaps (open_string shut_string)
attribute [local go_sem] GW.cell GW.frozen In.eq_true In.le_true In.ne In.ne' In.ne_add In.ne_add' In.lt_add Upto.le_true Upto.le_add Upto.lt_add

set_option maxHeartbeats 8000000 in
set_option maxRecDepth 100000 in
theorem walk (a b : List Cl) (r : List Vl) (v1 v2 v3 : Value) (w : World) (ha : Cw w [] v1 a) (hb : Cw w [] v2 b) (hr : Rw w [] v3 r) : Calls Try.prog 4 #[v1, v2, v3] w fun e w' => e = .returned (.bool true) ∧ Ext w w' := by
  have h1 := hide (fun w' (hX : Ext w w') => mayS_c a v1 w' (Sl.ext ha hX))
  have h2 := hide (fun w' (hX : Ext w w') => refMayS_c a v1 w' (Sl.ext ha hX))
  have h3 := hide (fun w' (hX : Ext w w') => sameS_c (Sl.ext ha hX) (Sl.ext hb hX))
  have h4 := hide (fun w' (hX : Ext w w') => refSameS_c (Sl.ext ha hX) (Sl.ext hb hX))
  have h5 := hide (fun w' (hX : Ext w w') => alikeS_c (Sl.ext ha hX) (Sl.ext hb hX))
  have h6 := hide (fun w' (hX : Ext w w') => refAlikeS_c (Sl.ext ha hX) (Sl.ext hb hX))
  have h7 := hide (fun w' (hX : Ext w w') => fitsS_c (Sl.ext ha hX) (Sl.ext hr hX))
  have h8 := hide (fun w' (hX : Ext w w') => refFitsS_c (Sl.ext ha hX) (Sl.ext hr hX))
  have h9 := hide (fun n w' (hX : Ext w w') => index_c a n v1 w' (Sl.ext ha hX))
  have h10 := hide (fun n w' (hX : Ext w w') => refIndex_c a n v1 w' (Sl.ext ha hX))
  obtain ⟨A, cap, rfl, -, -, -⟩ := cw_form ha
  obtain ⟨B, cap2, rfl, hbc, hbm, hbt⟩ := cw_form hb
  obtain ⟨C, cap3, rfl, -, -, -⟩ := rw_form hr
  unfold maxLen at hbm
  replace hbt := hide hbt
  clear ha hb hr
  generalize mayS a = x1 at *
  generalize eqP (fun x y : Cl => decide (x = y)) a b = x2 at *
  generalize eqP (fun x y : Cl => x.2 == y.2) a b = x3 at *
  generalize fitsS a r = x4 at *
  go_enter Try.func4, Try.ntmps4
  go_wp2_with (first | (go_at_call 12; (first | (with_reducible refine seq_gw' (h1.out _ (by repeat (first | exact Ext.refl _ | with_reducible assumption | refine Ext.alloc ?_ _ | refine Ext.drew ?_ | refine ext_gw ?_ _))) ?_) | (with_reducible refine seq_gw (h1.out _ (by repeat (first | exact Ext.refl _ | with_reducible assumption | refine Ext.alloc ?_ _ | refine Ext.drew ?_ | refine ext_gw ?_ _))) ?_)); intro g) | (go_at_call 13; (first | (with_reducible refine seq_gw' (h2.out _ (by repeat (first | exact Ext.refl _ | with_reducible assumption | refine Ext.alloc ?_ _ | refine Ext.drew ?_ | refine ext_gw ?_ _))) ?_) | (with_reducible refine seq_gw (h2.out _ (by repeat (first | exact Ext.refl _ | with_reducible assumption | refine Ext.alloc ?_ _ | refine Ext.drew ?_ | refine ext_gw ?_ _))) ?_)); intro g) | (go_at_call 14; (first | (with_reducible refine seq_gw' (h3.out _ (by repeat (first | exact Ext.refl _ | with_reducible assumption | refine Ext.alloc ?_ _ | refine Ext.drew ?_ | refine ext_gw ?_ _))) ?_) | (with_reducible refine seq_gw (h3.out _ (by repeat (first | exact Ext.refl _ | with_reducible assumption | refine Ext.alloc ?_ _ | refine Ext.drew ?_ | refine ext_gw ?_ _))) ?_)); intro g) | (go_at_call 15; (first | (with_reducible refine seq_gw' (h4.out _ (by repeat (first | exact Ext.refl _ | with_reducible assumption | refine Ext.alloc ?_ _ | refine Ext.drew ?_ | refine ext_gw ?_ _))) ?_) | (with_reducible refine seq_gw (h4.out _ (by repeat (first | exact Ext.refl _ | with_reducible assumption | refine Ext.alloc ?_ _ | refine Ext.drew ?_ | refine ext_gw ?_ _))) ?_)); intro g) | (go_at_call 16; (first | (with_reducible refine seq_gw' (h5.out _ (by repeat (first | exact Ext.refl _ | with_reducible assumption | refine Ext.alloc ?_ _ | refine Ext.drew ?_ | refine ext_gw ?_ _))) ?_) | (with_reducible refine seq_gw (h5.out _ (by repeat (first | exact Ext.refl _ | with_reducible assumption | refine Ext.alloc ?_ _ | refine Ext.drew ?_ | refine ext_gw ?_ _))) ?_)); intro g) | (go_at_call 17; (first | (with_reducible refine seq_gw' (h6.out _ (by repeat (first | exact Ext.refl _ | with_reducible assumption | refine Ext.alloc ?_ _ | refine Ext.drew ?_ | refine ext_gw ?_ _))) ?_) | (with_reducible refine seq_gw (h6.out _ (by repeat (first | exact Ext.refl _ | with_reducible assumption | refine Ext.alloc ?_ _ | refine Ext.drew ?_ | refine ext_gw ?_ _))) ?_)); intro g) | (go_at_call 18; (first | (with_reducible refine seq_gw' (h7.out _ (by repeat (first | exact Ext.refl _ | with_reducible assumption | refine Ext.alloc ?_ _ | refine Ext.drew ?_ | refine ext_gw ?_ _))) ?_) | (with_reducible refine seq_gw (h7.out _ (by repeat (first | exact Ext.refl _ | with_reducible assumption | refine Ext.alloc ?_ _ | refine Ext.drew ?_ | refine ext_gw ?_ _))) ?_)); intro g) | (go_at_call 19; (first | (with_reducible refine seq_gw' (h8.out _ (by repeat (first | exact Ext.refl _ | with_reducible assumption | refine Ext.alloc ?_ _ | refine Ext.drew ?_ | refine ext_gw ?_ _))) ?_) | (with_reducible refine seq_gw (h8.out _ (by repeat (first | exact Ext.refl _ | with_reducible assumption | refine Ext.alloc ?_ _ | refine Ext.drew ?_ | refine ext_gw ?_ _))) ?_)); intro g))
  clear h1 h2 h3 h4 h5 h6 h7 h8
  go_loopg [7] b.length (fun gh i wr => ∃ (k : Nat), i = .int .i64 k ∧ k + gh = b.length ∧ Ext w wr)
  case atStart => exact ⟨0, rfl, by omega, g.grown⟩
  case round =>
    obtain ⟨k, rfl, hk, hX⟩ := hrel
    by_cases hlt : k < b.length
    · obtain ⟨x, hx⟩ : ∃ x, b[k]? = some x := ⟨_, List.getElem?_eq_getElem hlt⟩
      obtain ⟨b0, o0, rfl, -, hb', c0, c1⟩ := hbt.out k x hx
      have k0 := cell_later hX c0
      have hbr : b0 < wr.heap.size := block_lt_of_cell k0
      obtain ⟨xn, xk⟩ := x
      simp only at k0
      have i1 := hide (fun (g : GW wr) => h9.out xn g.val (hX.trans g.grown))
      have i2 := hide (fun (g : GW wr) => h10.out xn g.val (hX.trans g.grown))
      generalize ixC a xn = ix at *
      clear c0 c1 hbt hx h9 h10
      haveI : In b0 wr := ⟨hbr⟩
      go_wp2_with fail
      refine wp_region_gw (by kernel_rfl) (by kernel_rfl) ?_
      repeat (go_big_quiet_step (first | (go_at_call 20; with_reducible exact quiet_gw (i1.out _)) | (go_at_call 21; with_reducible exact quiet_gw (i2.out _))))
      refine wpQuiet_nil ?_
      intro g8
      go_wp2_with fail
      go_roundg (b.length - (k + 1))
      case measure => omega
      case rel => exact ⟨k + 1, by go_num, by omega, hX.trans g8.grown⟩
    · have hk' : k = b.length := by omega
      have hge : (b.length : Int) ≤ k := by omega
      replace hk' := hide hk'
      go_wp2_with (go_at_call 9; (with_reducible refine seq_gw (schLive_c _) ?_); intro g9)
      go_returns
      exact ⟨rfl, hX.trans g9.grown⟩

theorem own : ownKnob Try.prog.godebug = none := by kernel_rfl
theorem laidOut : laidOutB Try.prog = true := by kernel_rfl
set_option maxRecDepth 100000 in
theorem lifted (os : Os) (started : os.Started) (H : Type) (enc : TypeId × Value → H) :
    ReturnsInHanded {} Try.checked os 4 .any (Rows.schemaMaySpec.pre6 enc Try.prog Try.f4 Rows.schemaMayRow.domain false) (Rows.schemaMaySpec.post enc Try.prog Try.f4 false true false false) := by
  refine returnsInHanded_of_change_sized (C := Try.checked) own started (by kernel_rfl) Try.func4
    (ChangeSpec.witness6 (enc := enc) (C := Try.checked) false ⟨#[], #[.slice none 0 0, .slice none 0 0, .slice none 0 0], []⟩ 8 (by kernel_rfl) (by kernel_rfl) (by kernel_rfl) (by kernel_rfl)) ?_
  intro W base args ds gs before hval0 hW hcnd hsz0 _
  have hsz : (DataW.weightsEach Try.prog (Try.f4.params.toList ++ Rows.schemaMaySpec.plain.varTypes Try.prog) (ds ++ gs)).all (· ≤ reachBytes) = true := hsz0
  clear hsz0
  have hval : ∀ (j : Nat) t v, Try.f4.params[j]? = some t → args[j]? = some v → Value.okWide Try.prog W .any base t v := hval0
  have hW' := hW
  obtain ⟨p, q, hA0, hV, rfl, hfz, hnd⟩ := hW
  have hA : DataW.TrodAll enc Try.prog W 0 (fun _ => true) true Try.f4.params.toList args.toList ds p := hA0
  rw [Try.params4] at hA hval hsz
  obtain ⟨v0, vs0, d0, ds0, p0, q0, hargs, rfl, rfl, h0, r0⟩ := trodAll_cons hA
  obtain ⟨v1, vs1, d1, ds1, p1, q1, rfl, rfl, rfl, h1, r1⟩ := trodAll_cons r0
  obtain ⟨v2, vs2, d2, ds2, p2, q2, rfl, rfl, rfl, h2, r2⟩ := trodAll_cons r1
  obtain ⟨rfl, rfl, rfl⟩ := trodAll_nil r2
  obtain rfl : args = #[v0, v1, v2] := by cases args; simp_all
  obtain ⟨rfl, rfl⟩ := trodVars_none hV
  have k0 := h0
  have lt0 : ∀ x ∈ p0, x.block < W.heap.size := by obtain ⟨m, hm⟩ := k0; exact DataW.trod_lt m _ _ _ hm
  obtain ⟨A0, n0, c0, rfl⟩ := okWide_slice Try.underlying25 (hval 0 25 v0 rfl rfl)
  have ⟨m0, hm0⟩ := h0
  obtain ⟨a, la, ha⟩ := open_cols Try.underlying25 Try.underlying34 (by kernel_rfl) rfl rfl (by kernel_rfl) (by kernel_rfl) Try.underlying9 Try.underlying32 hm0
  have za : a.length * 24 ≤ 140737488351232 := by rw [la]; exact sized_elems hsz (j := 0) (t := 25) (e := 34) rfl rfl Try.underlying25 (by kernel_rfl)
  have k1 := h1
  have lt1 : ∀ x ∈ p1, x.block < W.heap.size := by obtain ⟨m, hm⟩ := k1; exact DataW.trod_lt m _ _ _ hm
  obtain ⟨A1, n1, c1, rfl⟩ := okWide_slice Try.underlying25 (hval 1 25 v1 rfl rfl)
  have ⟨m1, hm1⟩ := h1
  obtain ⟨b, lb, hb⟩ := open_cols Try.underlying25 Try.underlying34 (by kernel_rfl) rfl rfl (by kernel_rfl) (by kernel_rfl) Try.underlying9 Try.underlying32 hm1
  have zb : b.length * 24 ≤ 140737488351232 := by rw [lb]; exact sized_elems hsz (j := 1) (t := 25) (e := 34) rfl rfl Try.underlying25 (by kernel_rfl)
  have k2 := h2
  have lt2 : ∀ x ∈ p2, x.block < W.heap.size := by obtain ⟨m, hm⟩ := k2; exact DataW.trod_lt m _ _ _ hm
  obtain ⟨A2, n2, c2, rfl⟩ := okWide_slice Try.underlying27 (hval 2 27 v2 rfl rfl)
  have ⟨m2, hm2⟩ := h2
  obtain ⟨c, lc, hc, qc⟩ := open_row Try.underlying27 Try.underlying68 (by kernel_rfl) rfl rfl rfl (by kernel_rfl) (by kernel_rfl) (by kernel_rfl) Try.underlying32 Try.underlying3 Try.underlying9 hm2
  have zc : c.length * 32 ≤ 140737488351232 := by rw [lc]; exact sized_elems hsz (j := 2) (t := 27) (e := 68) rfl rfl Try.underlying27 (by kernel_rfl)
  clear hA0 hval0
  refine (walk a b c _ _ _ W ha hb hc).mono fun e W' ⟨he, bel⟩ => ?_
  subst he
  exact ⟨_, rfl, _, _, _, [], _, [], hW', trodAll_mk1 (shut_bool Try.underlying4 _), (trodAll_cons_mk (Below.trod laidOut (by kernel_rfl) (of_decide_eq_true (by kernel_rfl)) k0 bel lt0) (trodAll_cons_mk (Below.trod laidOut (by kernel_rfl) (of_decide_eq_true (by kernel_rfl)) k1 bel lt1) (trodAll_cons_mk (Below.trod laidOut (by kernel_rfl) (of_decide_eq_true (by kernel_rfl)) k2 bel lt2) trodAll_mk0))), rfl, bel.frame _, fun h => by cases h⟩

theorem over : Rows.schemaMayRow.holds Try.pinned (OpenSpec.ofChange Rows.schemaMaySpec) :=
  OpenClaim.holds_of_wide 4 Try.f4 rfl rfl rfl rfl rfl rfl rfl ⟨rfl, rfl, rfl, rfl, rfl⟩ rfl rfl rfl rfl rfl (by kernel_rfl) Try.func4 (by kernel_rfl)
    (of_decide_eq_true (by kernel_rfl)) (by unfold Func.isWrapper; first | (rw [if_pos (by decide +kernel)]; kernel_rfl) | (rw [if_neg (by decide +kernel)]; exact ⟨rfl, rfl⟩))
    (fun os started H enc _ => lifted os started H enc)

theorem schemaMay_holds : Rows.SchemaMaySaid := over
end Go.Proofs.Ytbapkkijfmdcoaa.schemaMay
