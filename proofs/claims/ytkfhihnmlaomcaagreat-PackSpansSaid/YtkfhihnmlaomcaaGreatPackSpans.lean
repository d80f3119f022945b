/-
  Layer 11 (pack), 11.1: for every list of jumps (of which those of up to 60 count), the lifetimes of a function are those that the document says. No condition.
-/
import Derived.Test.YtkfhihnmlaomcaaGreatPakW
import Derived.Test.YtkfhihnmlaomcaaGreatPakD
import Derived.Test.YtkfhihnmlaomcaaGreatArg
import Derived.WalkKit
import Derived.ProofKit
import Derived.OpenShut
import Derived.ShutString
import Derived.ChangeOld
import Derived.Below
import Derived.Lib.SmallJoins
import Derived.SizedLaws
import Derived.Deep.CondSized
import Derived.JoinedCond
set_option linter.unusedVariables false
set_option linter.unusedSimpArgs false
namespace Go.Proofs.YtkfhihnmlaomcaaGreat.packSpans
open Go.ChangeShapes Go.WideShapes Go.ChangeAt Go.RowKit Go.Joins
open Go.ChangeMaps (open_string shut_string)
attribute [local go_sem] GW.cell GW.frozen In.eq_true In.le_true In.ne In.ne' In.ne_add In.ne_add' In.lt_add Upto.le_true Upto.le_add Upto.lt_add

set_option maxHeartbeats 1000000 in
theorem few_c (n : Nat) (w : World) : Calls Tryz.prog 10 #[.int .i64 n] w fun e w' => e = .returned (.bool (decide (n ≤ 60))) ∧ Ext w w' := by
  by_cases hl : n ≤ 60
  · have hI : (n : Int) ≤ 60 := by omega
    rw [decide_eq_true hl]
    go_enter Tryz.func10, Tryz.ntmps10
    go_wp2_with fail
    go_returns
    exact ⟨by first | rfl | simp, Ext.refl w⟩
  · have hI : ¬ (n : Int) ≤ 60 := by omega
    rw [decide_eq_false hl]
    go_enter Tryz.func10, Tryz.ntmps10
    go_wp2_with fail
    go_returns
    exact ⟨by first | rfl | simp, Ext.refl w⟩

attribute [local go_sem] eql_spn neq_spn
set_option maxHeartbeats 8000000 in
set_option maxRecDepth 100000 in
theorem walk (l : List Jp) (v : Value) (w : World) (h : Jw w [] v l) : Calls Tryz.prog 3 #[v] w fun e w' => e = .returned (.bool true) ∧ Ext w w' := by
  have hfew := hide (few_c l.length w)
  by_cases hl : l.length ≤ 60
  · rw [decide_eq_true hl] at hfew
    have hA := hide (fun w' (hX : Ext w w') => spans_c l v w' (Sl.ext h hX))
    have hB := hide (fun w' (hX : Ext w w') => refSpans_c l v w' (Sl.ext h hX))
    obtain ⟨VA, acap, rfl, -, -, -⟩ := jw_form h
    clear h
    generalize spE l = E at *
    generalize spR l = R at *
    have be : (E != E) = false := by simp
    have bn : ((R.length : Int) != R.length) = false := by simp
    go_enter Tryz.func3, Tryz.ntmps3
    go_wp2_with (first | (go_at_call 10; (with_reducible refine seq_gw hfew.out ?_); intro g0) | (go_at_call 12; refine (hA.out _ g0.grown).mono ?_; rintro ee w1 ⟨v1, rfl, o1, x1⟩; have X1 := hide (g0.grown.trans x1); obtain ⟨A1, c1, rfl⟩ := own_form o1) | (go_at_call 13; refine (hB.out _ X1.out).mono ?_; rintro ee w2 ⟨v2, rfl, o2, x2⟩; have X2 := hide (X1.out.trans x2); obtain ⟨A2, c2, rfl⟩ := own_form o2))
    have s1 : Jw w2 [] (.slice A1 R.length c1) R := Sl.ext (Sl.own (S := []) o1 (by simp)) x2
    have s2 : Jw w2 [] (.slice A2 R.length c2) R := Sl.own (S := []) o2 (by simp)
    obtain ⟨B1, d1, e1, hc1, hm1, hat1⟩ := jw_form s1
    obtain ⟨B2, d2, e2, hc2, hm2, hat2⟩ := jw_form s2
    simp only [Value.slice.injEq] at e1 e2
    obtain ⟨rfl, -, rfl⟩ := e1
    obtain ⟨rfl, -, rfl⟩ := e2
    unfold maxLen at hm1 hm2
    replace hat1 := hide hat1
    replace hat2 := hide hat2
    clear s1 s2 o1 o2 x1 x2 hA hB
    go_loopg [7] R.length (fun gh i wr => ∃ (k : Nat), i = .int .i64 k ∧ k + gh = R.length ∧ Ext w2 wr)
    case atStart => exact ⟨0, rfl, by omega, Ext.refl _⟩
    case round =>
      obtain ⟨k, rfl, hk, hX⟩ := hrel
      by_cases hlt : k < R.length
      · obtain ⟨⟨xa, xb⟩, hx⟩ : ∃ x, R[k]? = some x := ⟨_, List.getElem?_eq_getElem hlt⟩
        obtain ⟨b1, o1, rfl, -, hb1, p0, p1⟩ := hat1.out k _ hx
        obtain ⟨b2, o2, rfl, -, hb2, q0, q1⟩ := hat2.out k _ hx
        have k0 := jcell_later hX p0
        have k1 := jcell_later hX p1
        have m0 := jcell_later hX q0
        have m1 := jcell_later hX q1
        simp only at k0 k1 m0 m1
        have hbr1 : b1 < wr.heap.size := block_lt_of_cell k0
        have hbr2 : b2 < wr.heap.size := block_lt_of_cell m0
        haveI : In b1 wr := ⟨hbr1⟩
        haveI : In b2 wr := ⟨hbr2⟩
        have hltI : (k : Int) < R.length := by omega
        have bs1 : (xa == xa) = true := by simp
        have bs2 : (xb == xb) = true := by simp
        clear p0 p1 q0 q1 hx hat1 hat2
        go_wp2_with fail
        refine wp_region_gw (by kernel_rfl) (by kernel_rfl) ?_
        repeat (go_big_quiet_step (fail))
        refine wpQuiet_nil ?_
        intro g
        go_wp2_with fail
        go_roundg (R.length - (k + 1))
        case measure => omega
        case rel => exact ⟨k + 1, by go_num, by omega, hX.trans g.grown⟩
      · have hge : (R.length : Int) ≤ k := by omega
        have hXw := hide (X2.out.trans hX)
        clear hat1 hat2
        go_wp2_with (go_at_call 11; first | ((with_reducible refine seq_gw' (pakLive_c _) ?_); intro g5) | ((with_reducible refine seq_gw (pakLive_c _) ?_); intro g5))
        go_returns
        exact ⟨by first | rfl | simp, hXw.out.trans g5.grown⟩
  · rw [decide_eq_false hl] at hfew
    obtain ⟨VA, acap, rfl, -, -, -⟩ := jw_form h
    clear h hl
    go_enter Tryz.func3, Tryz.ntmps3
    go_wp2_with (first | (go_at_call 10; (with_reducible refine seq_gw hfew.out ?_); intro g0) | (go_at_call 11; first | ((with_reducible refine seq_gw' (pakLive_c _) ?_); intro g5) | ((with_reducible refine seq_gw (pakLive_c _) ?_); intro g5)))
    go_returns
    exact ⟨by first | rfl | simp, g5.grown⟩

theorem own : ownKnob Tryz.prog.godebug = none := by kernel_rfl
theorem laidOut : laidOutB Tryz.prog = true := by kernel_rfl
set_option maxRecDepth 100000 in
theorem lifted (os : Os) (started : os.Started) (H : Type) (enc : TypeId × Value → H) :
    ReturnsInHanded {} Tryz.checked os 3 .any (Rows.packSpansSpec.pre6 enc Tryz.prog Tryz.f3 Rows.packSpansRow.domain false) (Rows.packSpansSpec.post enc Tryz.prog Tryz.f3 false true false false) := by
  refine returnsInHanded_of_change_sized (C := Tryz.checked) own started (by kernel_rfl) Tryz.func3
    (ChangeSpec.witness6 (enc := enc) (C := Tryz.checked) false ⟨#[], #[.slice none 0 0], []⟩ 8 (by kernel_rfl) (by kernel_rfl) (by kernel_rfl) (by kernel_rfl)) ?_
  intro W base args ds gs before hval0 hW hcnd hsz0 _
  have hsz : (DataW.weightsEach Tryz.prog (Tryz.f3.params.toList ++ Rows.packSpansSpec.plain.varTypes Tryz.prog) (ds ++ gs)).all (· ≤ reachBytes) = true := hsz0
  clear hsz0
  have hval : ∀ (j : Nat) t v, Tryz.f3.params[j]? = some t → args[j]? = some v → Value.okWide Tryz.prog W .any base t v := hval0
  have hW' := hW
  obtain ⟨p, q, hA0, hV, rfl, hfz, hnd⟩ := hW
  have hA : DataW.TrodAll enc Tryz.prog W 0 (fun _ => true) true Tryz.f3.params.toList args.toList ds p := hA0
  rw [Tryz.params3] at hA hval hsz
  obtain ⟨v0, vs0, d0, ds0, p0, q0, hargs, rfl, rfl, h0, r0⟩ := trodAll_cons hA
  obtain ⟨rfl, rfl, rfl⟩ := trodAll_nil r0
  obtain rfl : args = #[v0] := by cases args; simp_all
  obtain ⟨rfl, rfl⟩ := trodVars_none hV
  have k0 := h0
  have lt0 : ∀ x ∈ p0, x.block < W.heap.size := by obtain ⟨m, hm⟩ := k0; exact DataW.trod_lt m _ _ _ hm
  obtain ⟨A0, n0, c0, rfl⟩ := okWide_slice Tryz.underlying22 (hval 0 22 v0 rfl rfl)
  have ⟨m0, hm0⟩ := h0
  obtain ⟨l, ll, hl, ql⟩ := open_pairs Tryz.underlying22 Tryz.underlying61 (by kernel_rfl) rfl rfl (by kernel_rfl) (by kernel_rfl) Tryz.underlying3 Tryz.underlying3 hm0
  have zl : l.length ≤ 140737488351232 := by rw [ll]; exact sized_len hsz (j := 0) (t := 22) (e := 61) rfl rfl Tryz.underlying22 (of_decide_eq_true (by kernel_rfl))
  clear hA0 hval0
  refine (walk l _ W hl).mono fun e W' ⟨he, bel⟩ => ?_
  subst he
  exact ⟨_, rfl, _, _, _, [], _, [], hW', trodAll_mk1 (shut_bool Tryz.underlying4 _), (trodAll_cons_mk (Below.trod laidOut (by kernel_rfl) (of_decide_eq_true (by kernel_rfl)) k0 bel lt0) trodAll_mk0), rfl, bel.frame _, fun h => by cases h⟩

theorem over : Rows.packSpansRow.holds Tryz.pinned (OpenSpec.ofChange Rows.packSpansSpec) :=
  OpenClaim.holds_of_wide 3 Tryz.f3 rfl rfl rfl rfl rfl rfl rfl ⟨rfl, rfl, rfl, rfl, rfl⟩ rfl rfl rfl rfl rfl (by kernel_rfl) Tryz.func3 (by kernel_rfl)
    (of_decide_eq_true (by kernel_rfl)) (by unfold Func.isWrapper; first | (rw [if_pos (by decide +kernel)]; kernel_rfl) | (rw [if_neg (by decide +kernel)]; exact ⟨rfl, rfl⟩))
    (fun os started H enc _ => lifted os started H enc)

theorem packSpans_holds : Rows.PackSpansSaid := over
end Go.Proofs.YtkfhihnmlaomcaaGreat.packSpans
