/-
  Layer 13 (fold), 13.1: for every list of messages (of which those of up to 200 count), which messages are taken, one after another, what is wrong with others, and the clock, is as the document says. No condition.
-/
import Derived.Test.YtiknkcadbaeknaaGreatFolG
import Derived.Test.YtiknkcadbaeknaaGreatFoldChangesF
import Derived.WalkKit
import Derived.ProofKit
import Derived.OpenShut
import Derived.ShutString
import Derived.ChangeOld
import Derived.Below
import Derived.Lib.SmallJoins
import Derived.SizedLaws
import Derived.Deep.CondSized
import Derived.JoinedCond
set_option linter.unusedVariables false
set_option linter.unusedSimpArgs false
namespace Go.Proofs.YtiknkcadbaeknaaGreat.foldTakes
open Go.ChangeShapes Go.WideShapes Go.ChangeAt Go.RowKit Go.Joins
open Go.ChangeMaps (open_string shut_string)
attribute [local go_sem] GW.cell GW.frozen In.eq_true In.le_true In.ne In.ne' In.ne_add In.ne_add' In.lt_add Upto.le_true Upto.le_add Upto.lt_add
theorem own_ns {w : World} {base e : Nat} {v : Value} {L : List Int} (h : w.ownsRow base e 1 v L.length (ns L)) {k : Nat} {x : Int} (hx : L[k]? = some x) : ∃ g cap, v = .slice (some ⟨g, 0, none⟩) L.length cap ∧ g < w.heap.size ∧ w.cell? ⟨g, k, none⟩ = some (.int .i64 x) := by
  have hk : k < L.length := (List.getElem?_eq_some_iff.1 hx).1
  rcases h.2 with ⟨-, h2⟩ | ⟨g, cap, cur, rfl, hb, hg, -⟩
  · omega
  · have c0 := h.cells (g := g) rfl k (.int .i64 x) (by unfold ns; rw [List.getElem?_map, hx]; rfl)
    rw [add_plain, Nat.zero_add] at c0
    exact ⟨g, cap, rfl, block_lt_of_cell c0, c0⟩
set_option maxHeartbeats 8000000 in
set_option maxRecDepth 100000 in
theorem walk (l : List Vm) (hi : ∀ p ∈ l, inM p.2) (u : Value) (w : World) (hl : Mw w [] u l) : Calls Tryz.prog 3 #[u] w fun e w' => e = .returned (.bool true) ∧ Ext w w' := by
  by_cases hs : l.length ≤ 200
  · have d1 : ¬ (200 : Int) < l.length := by omega
    have han := hide (fun w' (hX : Ext w w') => answers_c l u w' (hl.ext hX) hi (by omega))
    have hck := hide (fun w' (hX : Ext w w') => clock_c l u w' (hl.ext hX) hi (by omega))
    have hal := hide (fun w' (hX : Ext w w') => refAll_c l u w' (hl.ext hX) (by omega))
    have hRl := hide (runE_len (pms l) (0, []))
    obtain ⟨LA, lc, rfl, -⟩ := mw_form hl
    obtain ⟨R, hR⟩ : ∃ R, R = runE (0, []) (pms l) := ⟨_, rfl⟩
    obtain ⟨K, hK⟩ : ∃ K, K = (runS (0, []) (pms l)).1 := ⟨_, rfl⟩
    rw [← hK] at hck
    unfold AllPost at hal
    rw [← hR] at han hal hRl
    have hRle : R.length ≤ 200 := by have := hRl.out; simp only [pms, List.length_map] at this; omega
    clear hl hi hR
    go_enter Tryz.func3, Tryz.ntmps3
    go_wp2_with (first | (go_at_call 10; (refine (han.out _ (Ext.refl _)).mono ?_; rintro ee w1 ⟨v1, rfl, ho1, hx1⟩; obtain ⟨A1, c1, q1⟩ := own_form ho1; subst q1; replace ho1 := hide ho1; replace hx1 := hide hx1)) | (go_at_call 11; (refine (hal.out _ hx1.out).mono ?_; rintro ee w2 ⟨v2, v3, rfl, ev, gv, EL, CL, ho2, hC2, -, hSd, -, hx2⟩; obtain ⟨A2, c2, q2⟩ := own_form ho2; subst q2; obtain ⟨A3, c3, q3⟩ := hC2.form; subst q3; have hX2 := hide (hx1.out.trans hx2); have cl := hSd.ob.cell 0 rfl; have cll := hSd.ob.lt; haveI : In w1.heap.size w2 := ⟨cll⟩; have ho1' := hide (own_ext ho1.out hx2); replace ho2 := hide ho2; clear hSd hC2 hx2)))
    haveI : Gn w w2 := ⟨hX2.out⟩
    rw [← hK] at cl
    refine wp_region_gw (by kernel_rfl) (by kernel_rfl) ?_
    repeat (go_big_quiet_step ((go_at_call 12; exact quiet_gw (hck.out _ Gn.ext))))
    refine wpQuiet_nil ?_
    intro g3
    go_wp2_with fail
    go_loopg [7] R.length (fun gh iv wr => ∃ (k : Nat), iv = .int .i64 k ∧ k + gh = R.length ∧ Hid (Ext w2 wr))
    case atStart => exact ⟨0, rfl, by omega, g3.grown⟩
    case round =>
      obtain ⟨k, rfl, hk, hX⟩ := hrel
      by_cases hkl : k < R.length
      · have hkI : (k : Int) < R.length := by omega
        obtain ⟨x, hx⟩ : ∃ x, R[k]? = some x := ⟨_, List.getElem?_eq_getElem hkl⟩
        obtain ⟨ga, ca, ea, la, xa⟩ := own_ns (own_ext ho1'.out hX.out) hx
        obtain ⟨gb, cb, eb, lb, xb⟩ := own_ns (own_ext ho2.out hX.out) hx
        cases ea
        cases eb
        haveI : In ga wr := ⟨la⟩
        haveI : In gb wr := ⟨lb⟩
        clear hx
        go_wp2_with fail
        refine wp_region_gw (by kernel_rfl) (by kernel_rfl) ?_
        repeat (go_big_quiet_step (fail))
        refine wpQuiet_nil ?_
        intro g4
        go_wp2_with fail
        go_roundg (R.length - (k + 1))
        case measure => omega
        case rel => exact ⟨k + 1, by go_num, by omega, hX.out.trans g4.grown⟩
      · have hge : (R.length : Int) ≤ k := by omega
        go_wp2_with (go_at_call 9; first | ((with_reducible refine seq_gw' (foldLive_c _) ?_); intro g9) | ((with_reducible refine seq_gw (foldLive_c _) ?_); intro g9))
        go_returns
        exact ⟨by first | rfl | simp, hX2.out.trans (hX.out.trans g9.grown)⟩
  · have d1 : (200 : Int) < l.length := by omega
    obtain ⟨LA, lc, rfl, -⟩ := mw_form hl
    clear hl hi
    go_enter Tryz.func3, Tryz.ntmps3
    go_wp2_with (go_at_call 9; first | ((with_reducible refine seq_gw' (foldLive_c _) ?_); intro g0) | ((with_reducible refine seq_gw (foldLive_c _) ?_); intro g0))
    go_returns
    exact ⟨by first | rfl | simp, g0.grown⟩

theorem own : ownKnob Tryz.prog.godebug = none := by kernel_rfl
theorem laidOut : laidOutB Tryz.prog = true := by kernel_rfl
set_option maxRecDepth 100000 in
theorem lifted (os : Os) (started : os.Started) (H : Type) (enc : TypeId × Value → H) :
    ReturnsInHanded {} Tryz.checked os 3 .any (Rows.foldTakesSpec.pre6 enc Tryz.prog Tryz.f3 Rows.foldTakesRow.domain false) (Rows.foldTakesSpec.post enc Tryz.prog Tryz.f3 false true false false) := by
  refine returnsInHanded_of_change_sized (C := Tryz.checked) own started (by kernel_rfl) Tryz.func3
    (ChangeSpec.witness6 (enc := enc) (C := Tryz.checked) false ⟨#[], #[.slice none 0 0], []⟩ 8 (by kernel_rfl) (by kernel_rfl) (by kernel_rfl) (by kernel_rfl)) ?_
  intro W base args ds gs before hval0 hW hcnd hsz0 _
  have hsz : (DataW.weightsEach Tryz.prog (Tryz.f3.params.toList ++ Rows.foldTakesSpec.plain.varTypes Tryz.prog) (ds ++ gs)).all (· ≤ reachBytes) = true := hsz0
  clear hsz0
  have hval : ∀ (j : Nat) t v, Tryz.f3.params[j]? = some t → args[j]? = some v → Value.okWide Tryz.prog W .any base t v := hval0
  have hW' := hW
  obtain ⟨p, q, hA0, hV, rfl, hfz, hnd⟩ := hW
  have hA : DataW.TrodAll enc Tryz.prog W 0 (fun _ => true) true Tryz.f3.params.toList args.toList ds p := hA0
  rw [Tryz.params3] at hA hval hsz
  obtain ⟨v0, vs0, d0, ds0, p0, q0, hargs, rfl, rfl, h0, r0⟩ := trodAll_cons hA
  obtain ⟨rfl, rfl, rfl⟩ := trodAll_nil r0
  obtain rfl : args = #[v0] := by cases args; simp_all
  obtain ⟨rfl, rfl⟩ := trodVars_none hV
  have k0 := h0
  have lt0 : ∀ x ∈ p0, x.block < W.heap.size := by obtain ⟨m, hm⟩ := k0; exact DataW.trod_lt m _ _ _ hm
  obtain ⟨A0, n0, c0, rfl⟩ := okWide_slice Tryz.underlying22 (hval 0 22 v0 rfl rfl)
  have ⟨m0, hm0⟩ := h0
  obtain ⟨l, ll, hl, ql⟩ := open_msgs Tryz.underlying22 Tryz.underlying67 (by kernel_rfl) rfl rfl rfl rfl rfl (by kernel_rfl) (by kernel_rfl) (by kernel_rfl) (by kernel_rfl) (by kernel_rfl) Tryz.underlying65 Tryz.underlying3 Tryz.underlying3 Tryz.underlying3 Tryz.underlying40 Tryz.underlying93 (by kernel_rfl) rfl rfl rfl (by kernel_rfl) (by kernel_rfl) (by kernel_rfl) Tryz.underlying91 Tryz.underlying3 Tryz.underlying9 hm0
  have zl : l.length * 56 ≤ 140737488351232 := by rw [ll]; exact sized_elems hsz (j := 0) (t := 22) (e := 67) rfl rfl Tryz.underlying22 (by kernel_rfl)
  clear hA0 hval0
  refine (walk l ql _ W hl).mono fun e W' ⟨he, bel⟩ => ?_
  subst he
  exact ⟨_, rfl, _, _, _, [], _, [], hW', trodAll_mk1 (shut_bool Tryz.underlying4 _), (trodAll_cons_mk (Below.trod laidOut (by kernel_rfl) (of_decide_eq_true (by kernel_rfl)) k0 bel lt0) trodAll_mk0), rfl, bel.frame _, fun h => by cases h⟩

theorem over : Rows.foldTakesRow.holds Tryz.pinned (OpenSpec.ofChange Rows.foldTakesSpec) :=
  OpenClaim.holds_of_wide 3 Tryz.f3 rfl rfl rfl rfl rfl rfl rfl ⟨rfl, rfl, rfl, rfl, rfl⟩ rfl rfl rfl rfl rfl (by kernel_rfl) Tryz.func3 Facts.foldTakes.closed
    (of_decide_eq_true (by kernel_rfl)) (by unfold Func.isWrapper; first | (rw [if_pos (by decide +kernel)]; kernel_rfl) | (rw [if_neg (by decide +kernel)]; exact ⟨rfl, rfl⟩))
    (fun os started H enc _ => lifted os started H enc)

theorem foldTakes_holds : Rows.FoldTakesSaid := over
end Go.Proofs.YtiknkcadbaeknaaGreat.foldTakes
