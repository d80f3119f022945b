/-
  Layer 13 (fold), 13.1: for every list of messages (of which those of up to 200 count), what the messages that are taken do, one after another, is as the document says. No condition.
-/
import Derived.Test.YtiknkcadbaeknaaGreatFolG
import Derived.Test.YtiknkcadbaeknaaGreatFoldChangesF
import Derived.WalkKit
import Derived.ProofKit
import Derived.OpenShut
import Derived.ShutString
import Derived.ChangeOld
import Derived.Below
import Derived.Lib.SmallJoins
import Derived.SizedLaws
import Derived.Deep.CondSized
import Derived.JoinedCond
set_option linter.unusedVariables false
set_option linter.unusedSimpArgs false
namespace Go.Proofs.YtiknkcadbaeknaaGreat.foldChanges
open Go.ChangeShapes Go.WideShapes Go.ChangeAt Go.RowKit Go.Joins
open Go.ChangeMaps (open_string shut_string)
attribute [local go_sem] GW.cell GW.frozen In.eq_true In.le_true In.ne In.ne' In.ne_add In.ne_add' In.lt_add Upto.le_true Upto.le_add Upto.lt_add
theorem chs_get : ∀ (L : List (Value × Ch)) (i : Nat) (p : Value × Ch), L[i]? = some p → ∀ j u, (chO p.1 p.2)[j]? = some u → (L.flatMap fun p => chO p.1 p.2)[i * 6 + j]? = some u
  | q :: r, 0, p, h, j, u, hu => by
    simp at h; subst h
    have hj : j < (chO q.1 q.2).length := (List.getElem?_eq_some_iff.1 hu).1
    rw [List.flatMap_cons, List.getElem?_append_left (by omega), show 0 * 6 + j = j by omega]; exact hu
  | q :: r, i + 1, p, h, j, u, hu => by
    have := chs_get r i p (by simpa using h) j u hu
    rw [List.flatMap_cons, show (i + 1) * 6 + j = (chO q.1 q.2).length + (i * 6 + j) by simp [chO]; omega, List.getElem?_append_right (by omega), Nat.add_sub_cancel_left]
    exact this
theorem own_chat {w : World} {base : Nat} {v : Value} {L : List (Value × Ch)} (h : OwnCh w base v L) {k : Nat} {p : Value × Ch} (hp : L[k]? = some p) : ∃ g cap PA pc, v = .slice (some ⟨g, 0, none⟩) L.length cap ∧ g < w.heap.size ∧ p.1 = .slice PA p.2.2.1.length pc ∧ w.cell? ⟨g, k * 6, none⟩ = some (.int .i64 p.2.1) ∧ w.cell? ⟨g, k * 6 + 1, none⟩ = some p.1 ∧ w.cell? ⟨g, k * 6 + 2, none⟩ = some (.int .i64 p.2.2.2.1.1) ∧ w.cell? ⟨g, k * 6 + 3, none⟩ = some (.int .i64 p.2.2.2.1.2) ∧ w.cell? ⟨g, k * 6 + 4, none⟩ = some (.int .i64 p.2.2.2.2.1) ∧ w.cell? ⟨g, k * 6 + 5, none⟩ = some (.int .i64 p.2.2.2.2.2) := by
  have hk : k < L.length := (List.getElem?_eq_some_iff.1 hp).1
  obtain ⟨PA, pc, e⟩ := rwo_val (h.2 p (List.mem_of_getElem? hp))
  rcases h.1.2 with ⟨-, h2⟩ | ⟨g, cap, cur, rfl, hb, hg, -⟩
  · omega
  · have c0 := h.1.cells (g := g) rfl (k * 6 + 0) _ (chs_get L k p hp 0 _ rfl)
    have c1 := h.1.cells (g := g) rfl (k * 6 + 1) _ (chs_get L k p hp 1 _ rfl)
    have c2 := h.1.cells (g := g) rfl (k * 6 + 2) _ (chs_get L k p hp 2 _ rfl)
    have c3 := h.1.cells (g := g) rfl (k * 6 + 3) _ (chs_get L k p hp 3 _ rfl)
    have c4 := h.1.cells (g := g) rfl (k * 6 + 4) _ (chs_get L k p hp 4 _ rfl)
    have c5 := h.1.cells (g := g) rfl (k * 6 + 5) _ (chs_get L k p hp 5 _ rfl)
    rw [add_plain, Nat.zero_add] at c0 c1 c2 c3 c4 c5
    exact ⟨g, cap, PA, pc, rfl, block_lt_of_cell c0, e, c0, c1, c2, c3, c4, c5⟩
theorem refSameChange_c (c : Ch) (u v : Value) (w : World) (hu : Rw w [] u c.2.1) (hv : Rw w [] v c.2.1) : Calls Tryz.prog 14 #[chV u c, chV v c] w fun e w' => e = .returned (.bool true) ∧ Ext w w' := by
  have hsm := hide (fun w' (hX : Ext w w') => refRowSame_c (Sl.ext hu hX) (Sl.ext hv hX))
  obtain ⟨UA, uc, rfl⟩ := rw_val hu
  obtain ⟨VA, vc, rfl⟩ := rw_val hv
  obtain ⟨cs, cr, ⟨o1, o2⟩, n1, n2⟩ := c
  rw [decide_eq_true rfl] at hsm
  clear hu hv
  simp only at *
  go_enter Tryz.func14, Tryz.ntmps14
  go_wp2_with (go_at_call 17; first | ((with_reducible refine seq_gw' (hsm.out _ Gn.ext) ?_); intro g) | ((with_reducible refine seq_gw (hsm.out _ Gn.ext) ?_); intro g))
  go_returns
  exact ⟨by first | rfl | simp, Gn.ext⟩
set_option maxHeartbeats 8000000 in
set_option maxRecDepth 100000 in
theorem walk (l : List Vm) (hi : ∀ p ∈ l, inM p.2) (u : Value) (w : World) (hl : Mw w [] u l) : Calls Tryz.prog 4 #[u] w fun e w' => e = .returned (.bool true) ∧ Ext w w' := by
  by_cases hs : l.length ≤ 200
  · have d1 : ¬ (200 : Int) < l.length := by omega
    have han := hide (fun w' (hX : Ext w w') => changes_c l u w' (hl.ext hX) hi (by omega))
    have hal := hide (fun w' (hX : Ext w w') => refAll_c l u w' (hl.ext hX) (by omega))
    have hRl := hide (runC_len (pms l) (0, []))
    obtain ⟨LA, lc, rfl, -⟩ := mw_form hl
    obtain ⟨R, hR⟩ : ∃ R, R = runC (0, []) (pms l) := ⟨_, rfl⟩
    unfold AllPost at hal
    rw [← hR] at han hal hRl
    have hRle : R.length ≤ 200 := by have := hRl.out; simp only [pms, List.length_map] at this; omega
    clear hl hi hR
    go_enter Tryz.func4, Tryz.ntmps4
    go_wp2_with (first | (go_at_call 13; (refine (han.out _ (Ext.refl _)).mono ?_; rintro ee w1 ⟨v1, M1, rfl, ho1, hM1, hx1⟩; obtain ⟨A1, c1, q1⟩ := ho1.form; subst q1; replace ho1 := hide ho1; replace hx1 := hide hx1)) | (go_at_call 11; (refine (hal.out _ hx1.out).mono ?_; rintro ee w2 ⟨v2, v3, rfl, ev, gv, EL, CL, ho2, hC2, hCm, -, -, hx2⟩; obtain ⟨A2, c2, q2⟩ := own_form ho2; subst q2; obtain ⟨A3, c3, q3⟩ := hC2.form; subst q3; have hX2 := hide (hx1.out.trans hx2); have ho1' := hide (ho1.out.ext hx2); have hl1 := congrArg List.length hM1; have hl2 := congrArg List.length hCm; rw [List.length_map] at hl1 hl2; replace hC2 := hide hC2; clear ho2 hx2; have hLL := hide (show M1.length = CL.length by omega); have hne : ((M1.length : Int) != (CL.length : Int)) = false := (by rw [hLL.out]; exact bne_self_eq_false _); replace hM1 := hide hM1; replace hCm := hide hCm; replace hl1 := hide hl1; clear hl2)))
    have hMl : M1.length ≤ 200 := by have := hl1.out; omega
    haveI : Gn w w2 := ⟨hX2.out⟩
    go_loopg [7] M1.length (fun gh iv wr => ∃ (k : Nat), iv = .int .i64 k ∧ k + gh = M1.length ∧ Hid (Ext w2 wr))
    case atStart => exact ⟨0, rfl, by omega, Ext.refl _⟩
    case round =>
      obtain ⟨k, rfl, hk, hX⟩ := hrel
      by_cases hkl : k < M1.length
      · have hkI : (k : Int) < M1.length := by omega
        have hkI2 : (k : Int) < CL.length := by have := hLL.out; omega
        obtain ⟨x, hx⟩ : ∃ x, M1[k]? = some x := ⟨_, List.getElem?_eq_getElem hkl⟩
        obtain ⟨y, hy⟩ : ∃ y, CL[k]? = some y := ⟨_, List.getElem?_eq_getElem (by rw [← hLL.out]; exact hkl)⟩
        have hxy : x.2 = y.2 := by
          have h1 := congrArg (fun l => l[k]?) hM1.out
          have h2 := congrArg (fun l => l[k]?) hCm.out
          simp only [List.getElem?_map, hx, hy, Option.map_some] at h1 h2
          rw [← h2] at h1
          exact Option.some.inj h1
        obtain ⟨ga, ca, PA, pa, ea, la, ya, x0, x1, x2, x3, x4, x5⟩ := own_chat (ho1'.out.ext hX.out) hx
        obtain ⟨gb, cb, PB, pb, eb, lb, yb, y0, y1, y2, y3, y4, y5⟩ := own_chat (hC2.out.ext hX.out) hy
        have rx := hide ((ho1'.out.ext hX.out).2 x (List.mem_of_getElem? hx)).rw
        have ry := hide ((hC2.out.ext hX.out).2 y (List.mem_of_getElem? hy)).rw
        cases ea
        cases eb
        haveI : In ga wr := ⟨la⟩
        haveI : In gb wr := ⟨lb⟩
        obtain ⟨xv, xs, xr, ⟨xo1, xo2⟩, xn1, xn2⟩ := x
        obtain ⟨yv, yc⟩ := y
        simp only at hxy
        subst hxy
        simp only at ya yb x0 x1 x2 x3 x4 x5 y0 y1 y2 y3 y4 y5 rx ry
        subst ya
        subst yb
        have hsm := hide (fun w' (hx' : Ext wr w') => refSameChange_c (xs, xr, (xo1, xo2), xn1, xn2) _ _ w' (Sl.ext rx.out hx') (Sl.ext ry.out hx'))
        obtain ⟨xl, hxl⟩ : ∃ xl, xl = xr.length := ⟨_, rfl⟩
        rw [← hxl] at hsm x1 y1
        replace hxl := hide hxl
        clear hx hy rx ry
        go_wp2_with fail
        refine wp_region_gw (by kernel_rfl) (by kernel_rfl) ?_
        repeat (go_big_quiet_step ((go_at_call 14; exact quiet_gw (hsm.out _ Gn.ext))))
        refine wpQuiet_nil ?_
        intro g4
        go_wp2_with fail
        go_roundg (M1.length - (k + 1))
        case measure => omega
        case rel => exact ⟨k + 1, by go_num, by omega, hX.out.trans g4.grown⟩
      · have hge : (M1.length : Int) ≤ k := by omega
        go_wp2_with (go_at_call 9; first | ((with_reducible refine seq_gw' (foldLive_c _) ?_); intro g9) | ((with_reducible refine seq_gw (foldLive_c _) ?_); intro g9))
        go_returns
        exact ⟨by first | rfl | simp, hX2.out.trans (hX.out.trans g9.grown)⟩
  · have d1 : (200 : Int) < l.length := by omega
    obtain ⟨LA, lc, rfl, -⟩ := mw_form hl
    clear hl hi
    go_enter Tryz.func4, Tryz.ntmps4
    go_wp2_with (go_at_call 9; first | ((with_reducible refine seq_gw' (foldLive_c _) ?_); intro g0) | ((with_reducible refine seq_gw (foldLive_c _) ?_); intro g0))
    go_returns
    exact ⟨by first | rfl | simp, g0.grown⟩

theorem own : ownKnob Tryz.prog.godebug = none := by kernel_rfl
theorem laidOut : laidOutB Tryz.prog = true := by kernel_rfl
set_option maxRecDepth 100000 in
theorem lifted (os : Os) (started : os.Started) (H : Type) (enc : TypeId × Value → H) :
    ReturnsInHanded {} Tryz.checked os 4 .any (Rows.foldChangesSpec.pre6 enc Tryz.prog Tryz.f4 Rows.foldChangesRow.domain false) (Rows.foldChangesSpec.post enc Tryz.prog Tryz.f4 false true false false) := by
  refine returnsInHanded_of_change_sized (C := Tryz.checked) own started (by kernel_rfl) Tryz.func4
    (ChangeSpec.witness6 (enc := enc) (C := Tryz.checked) false ⟨#[], #[.slice none 0 0], []⟩ 8 (by kernel_rfl) (by kernel_rfl) (by kernel_rfl) (by kernel_rfl)) ?_
  intro W base args ds gs before hval0 hW hcnd hsz0 _
  have hsz : (DataW.weightsEach Tryz.prog (Tryz.f4.params.toList ++ Rows.foldChangesSpec.plain.varTypes Tryz.prog) (ds ++ gs)).all (· ≤ reachBytes) = true := hsz0
  clear hsz0
  have hval : ∀ (j : Nat) t v, Tryz.f4.params[j]? = some t → args[j]? = some v → Value.okWide Tryz.prog W .any base t v := hval0
  have hW' := hW
  obtain ⟨p, q, hA0, hV, rfl, hfz, hnd⟩ := hW
  have hA : DataW.TrodAll enc Tryz.prog W 0 (fun _ => true) true Tryz.f4.params.toList args.toList ds p := hA0
  rw [Tryz.params4] at hA hval hsz
  obtain ⟨v0, vs0, d0, ds0, p0, q0, hargs, rfl, rfl, h0, r0⟩ := trodAll_cons hA
  obtain ⟨rfl, rfl, rfl⟩ := trodAll_nil r0
  obtain rfl : args = #[v0] := by cases args; simp_all
  obtain ⟨rfl, rfl⟩ := trodVars_none hV
  have k0 := h0
  have lt0 : ∀ x ∈ p0, x.block < W.heap.size := by obtain ⟨m, hm⟩ := k0; exact DataW.trod_lt m _ _ _ hm
  obtain ⟨A0, n0, c0, rfl⟩ := okWide_slice Tryz.underlying22 (hval 0 22 v0 rfl rfl)
  have ⟨m0, hm0⟩ := h0
  obtain ⟨l, ll, hl, ql⟩ := open_msgs Tryz.underlying22 Tryz.underlying67 (by kernel_rfl) rfl rfl rfl rfl rfl (by kernel_rfl) (by kernel_rfl) (by kernel_rfl) (by kernel_rfl) (by kernel_rfl) Tryz.underlying65 Tryz.underlying3 Tryz.underlying3 Tryz.underlying3 Tryz.underlying40 Tryz.underlying93 (by kernel_rfl) rfl rfl rfl (by kernel_rfl) (by kernel_rfl) (by kernel_rfl) Tryz.underlying91 Tryz.underlying3 Tryz.underlying9 hm0
  have zl : l.length * 56 ≤ 140737488351232 := by rw [ll]; exact sized_elems hsz (j := 0) (t := 22) (e := 67) rfl rfl Tryz.underlying22 (by kernel_rfl)
  clear hA0 hval0
  refine (walk l ql _ W hl).mono fun e W' ⟨he, bel⟩ => ?_
  subst he
  exact ⟨_, rfl, _, _, _, [], _, [], hW', trodAll_mk1 (shut_bool Tryz.underlying4 _), (trodAll_cons_mk (Below.trod laidOut (by kernel_rfl) (of_decide_eq_true (by kernel_rfl)) k0 bel lt0) trodAll_mk0), rfl, bel.frame _, fun h => by cases h⟩

theorem over : Rows.foldChangesRow.holds Tryz.pinned (OpenSpec.ofChange Rows.foldChangesSpec) :=
  OpenClaim.holds_of_wide 4 Tryz.f4 rfl rfl rfl rfl rfl rfl rfl ⟨rfl, rfl, rfl, rfl, rfl⟩ rfl rfl rfl rfl rfl (by kernel_rfl) Tryz.func4 Facts.foldChanges.closed
    (of_decide_eq_true (by kernel_rfl)) (by unfold Func.isWrapper; first | (rw [if_pos (by decide +kernel)]; kernel_rfl) | (rw [if_neg (by decide +kernel)]; exact ⟨rfl, rfl⟩))
    (fun os started H enc _ => lifted os started H enc)

theorem foldChanges_holds : Rows.FoldChangesSaid := over
end Go.Proofs.YtiknkcadbaeknaaGreat.foldChanges
