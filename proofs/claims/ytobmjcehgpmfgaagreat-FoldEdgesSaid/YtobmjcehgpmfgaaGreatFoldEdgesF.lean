/-
  A helper of ours: no claim of its own. The closed facts of the row of FoldEdges, one by one.
-/
import Derived.Test.YtobmjcehgpmfgaaGreatEdgB
import Derived.Test.YtobmjcehgpmfgaaGreatValA
import Derived.Lib.SmallJoins
import Derived.Test.YtobmjcehgpmfgaaGreatRows
import Derived.Test.YtobmjcehgpmfgaaGreatChecked
import Derived.WalkKit
import Derived.ProofKit
import Derived.JoinedCond
set_option linter.unusedVariables false
set_option linter.unusedSimpArgs false
namespace Go.Proofs.YtobmjcehgpmfgaaGreat
open Go.RowKit
attribute [local go_sem] GW.cell GW.frozen In.eq_true In.le_true In.ne In.ne' In.ne_add In.ne_add' In.lt_add Upto.le_true Upto.le_add Upto.lt_add
set_option maxHeartbeats 8000000 in
set_option maxRecDepth 100000 in
theorem refEdgeSame_c {L M : List Ve} {v u : Value} {w : World} (hl : Ew w [] v L) (hm : Ew w [] u M) : Calls Tryz.prog 24 #[v, u] w fun e w' => e = .returned (.bool (decide (eds L = eds M))) ∧ Ext w w' := by
  obtain ⟨A, cap, rfl, hlc, hlm, hat⟩ := ew_form hl
  obtain ⟨B, cap2, rfl, hmc, hmm, hbt⟩ := ew_form hm
  unfold maxLen at hlm hmm
  have hrl := hide hl.2
  have hrm := hide hm.2
  clear hl hm
  replace hat := hide hat
  replace hbt := hide hbt
  obtain ⟨R, hR⟩ : ∃ R, R = decide (eds L = eds M) := ⟨_, rfl⟩
  rw [← hR]
  rw [← eqP_eds] at hR
  by_cases hn : L.length = M.length
  · replace hR := hide hR
    obtain ⟨n, hln⟩ : ∃ n, n = L.length := ⟨_, rfl⟩
    have hmn : n = M.length := by omega
    rw [← hln] at hlc ⊢
    rw [← hmn] at hmc ⊢
    have hlI := hide hln
    have hmI := hide hmn
    clear hn hln hmn
    go_enter Tryz.func24, Tryz.ntmps24
    go_wp2_with fail
    go_loopg [5] n (fun gh i wr => ∃ (k : Nat), i = .int .i64 k ∧ k + gh = n ∧ Hid (R = eqP (fun x y : Ve => decide (x.2 = y.2)) (L.drop k) (M.drop k)) ∧ Ext w wr)
    case atStart => exact ⟨0, rfl, by omega, hR, Ext.refl w⟩
    case round =>
      obtain ⟨k, rfl, hk, hRk, hX⟩ := hrel
      clear hR
      by_cases hlt : k < n
      · obtain ⟨x, hx⟩ : ∃ x, L[k]? = some x := ⟨_, List.getElem?_eq_getElem (by have := hlI.out; omega)⟩
        obtain ⟨y, hy⟩ : ∃ y, M[k]? = some y := ⟨_, List.getElem?_eq_getElem (by have := hmI.out; omega)⟩
        obtain ⟨b, o, rfl, -, hb, c0, c1, c2⟩ := hat.out k x hx
        obtain ⟨b', o', rfl, -, hb', d0, d1, d2⟩ := hbt.out k y hy
        have k0 := cell_later hX c0
        have k1 := cell_later hX c1
        have k2 := cell_later hX c2
        have j0 := cell_later hX d0
        have j1 := cell_later hX d1
        have j2 := cell_later hX d2
        have hbr : b < wr.heap.size := block_lt_of_cell k0
        have hbr' : b' < wr.heap.size := block_lt_of_cell j0
        haveI : In b wr := ⟨hbr⟩
        haveI : In b' wr := ⟨hbr'⟩
        have hrx := Sl.ext (hrl.out x (List.mem_of_getElem? hx)) hX
        have hry := Sl.ext (hrm.out y (List.mem_of_getElem? hy)) hX
        have hR2 := hRk.out
        rw [drop_cons hx, drop_cons hy] at hR2
        obtain ⟨xv, xq, xa, xn⟩ := x
        obtain ⟨yv, yq, ya, yn⟩ := y
        simp only at k0 k1 k2 j0 j1 j2 hrx hry
        have hq := hide (fun w' (hXw : Ext wr w') => refRowSame_c (Sl.ext hrx hXw) (Sl.ext hry hXw))
        obtain ⟨XA, xcap, rfl⟩ := rw_val hrx
        obtain ⟨YA, ycap, rfl⟩ := rw_val hry
        have hyes : Hid ((xq, (xa, xn)) = (yq, (ya, yn)) → R = eqP (fun x y : Ve => decide (x.2 = y.2)) (L.drop (k + 1)) (M.drop (k + 1))) := fun h => by
          rw [hR2]; exact eqP_yes (p := (fun x y : Ve => decide (x.2 = y.2))) (x := (.slice XA xq.length xcap, xq, xa, xn)) (y := (.slice YA yq.length ycap, yq, ya, yn)) (decide_eq_true h)
        have hno : Hid ((xq, (xa, xn)) ≠ (yq, (ya, yn)) → R = false) := fun h => by
          rw [hR2]; exact eqP_no (p := (fun x y : Ve => decide (x.2 = y.2))) (x := (.slice XA xq.length xcap, xq, xa, xn)) (y := (.slice YA yq.length ycap, yq, ya, yn)) (decide_eq_false h)
        clear c0 c1 c2 d0 d1 d2 hat hbt hx hy hlI hmI hRk hrx hry hrl hrm hR2
        by_cases e1 : xa = ya
        · by_cases e2 : xn = yn
          · subst e1; subst e2
            by_cases e3 : xq = yq
            · have hf := hide (hyes.out (by rw [e3]))
              rw [decide_eq_true e3] at hq
              have b1 : (xa != xa) = false := by simp
              have b2 : (xn != xn) = false := by simp
              replace e3 := hide e3
              clear hyes hno
              go_wp2_with fail
              refine wp_region_gw (by kernel_rfl) (by kernel_rfl) ?_
              repeat (go_big_quiet_step ((go_at_call 41; with_reducible exact quiet_gw (hq.out _ (GW.grown _)))))
              refine wpQuiet_nil ?_
              intro g
              go_wp2_with fail
              go_roundg (n - (k + 1))
              case measure => omega
              case rel => exact ⟨k + 1, by go_num, by omega, hf, hX.trans g.grown⟩
            · have hf := hide (hno.out (fun h => e3 (Prod.mk.inj h).1))
              rw [decide_eq_false e3] at hq
              have b1 : (xa != xa) = false := by simp
              have b2 : (xn != xn) = false := by simp
              replace e3 := hide e3
              clear hyes hno
              go_wp2_with fail
              refine wp_region_gw (by kernel_rfl) (by kernel_rfl) ?_
              repeat (go_big_quiet_step ((go_at_call 41; with_reducible exact quiet_gw (hq.out _ (GW.grown _)))))
              refine wpQuiet_nil ?_
              intro g
              go_wp2_with fail
              go_returns
              exact ⟨by rw [hf.out]; rfl, hX.trans g.grown⟩
          · subst e1
            have hf := hide (hno.out (fun h => e2 (Prod.mk.inj (Prod.mk.inj h).2).2))
            have b1 : (xa != xa) = false := by simp
            have b2 : (xn != yn) = true := by simp [e2]
            replace e2 := hide e2
            clear hyes hno hq
            go_wp2_with fail
            refine wp_region_gw (by kernel_rfl) (by kernel_rfl) ?_
            repeat (go_big_quiet_step (fail))
            refine wpQuiet_nil ?_
            intro g
            go_wp2_with fail
            go_returns
            exact ⟨by rw [hf.out]; rfl, hX.trans g.grown⟩
        · have hf := hide (hno.out (fun h => e1 (Prod.mk.inj (Prod.mk.inj h).2).1))
          have b1 : (xa != ya) = true := by simp [e1]
          replace e1 := hide e1
          clear hyes hno hq
          go_wp2_with fail
          refine wp_region_gw (by kernel_rfl) (by kernel_rfl) ?_
          repeat (go_big_quiet_step (fail))
          refine wpQuiet_nil ?_
          intro g
          go_wp2_with fail
          go_returns
          exact ⟨by rw [hf.out]; rfl, hX.trans g.grown⟩
      · have hk' : k = n := by omega
        have hge : (n : Int) ≤ k := by omega
        have hR2 := hRk.out
        rw [List.drop_eq_nil_of_le (by have := hlI.out; omega), List.drop_eq_nil_of_le (by have := hmI.out; omega)] at hR2
        replace hR2 : R = true := hR2
        replace hR2 := hide hR2
        replace hk' := hide hk'
        go_wp2_with fail
        go_returns
        exact ⟨by rw [hR2.out]; rfl, hX⟩
  · have hR2 := hR.trans (eqP_len hn)
    replace hR2 := hide hR2
    have hnI : ¬ (L.length : Int) = M.length := by omega
    clear hR hn
    go_enter Tryz.func24, Tryz.ntmps24
    go_wp2_with fail
    go_returns
    exact ⟨by rw [hR2.out]; rfl, Ext.refl w⟩
end Go.Proofs.YtobmjcehgpmfgaaGreat
set_option linter.unusedVariables false
set_option linter.unusedSimpArgs false
namespace Go.Proofs.YtobmjcehgpmfgaaGreat
open Go.RowKit Go.Deep Go.ChangeShapes Go.WideShapes Go.ChangeAt Go.Joins
section
variable {H : Type} {enc : TypeId × Value → H} {P : Program} {w : World} {base : Nat} {held : Bool}
theorem sixA {α : Type} {a : Array α} (h : a.size = 6) : ∃ x0 x1 x2 x3 x4 x5, a = #[x0, x1, x2, x3, x4, x5] := by
  obtain ⟨l⟩ := a
  match l, h with
  | [x0, x1, x2, x3, x4, x5], _ => exact ⟨x0, x1, x2, x3, x4, x5, rfl⟩
theorem open_change {r : Reach} {b0 : Nat} {t e : TypeId} {f0 f1 f2 f3 s0 s1 g0 g1 g2 : Field} {v : Value} {d : DataW H} {p : List MemPlace} (hs : P.underlying t = some (.struct #[f0, f1, f2, f3]))
    (o0 : f0.offset = 0) (o1 : f1.offset = 1) (o2 : f2.offset = 2) (o3 : f3.offset = 4)
    (c0 : P.cellsOf f0.type = 1) (c1 : P.cellsOf f1.type = 1) (c2 : P.cellsOf f2.type = 2) (c3 : P.cellsOf f3.type = 2)
    (u0 : P.underlying f0.type = some (.int .i64)) (u1 : P.underlying f1.type = some (.slice e)) (u2 : P.underlying f2.type = some (.struct #[s0, s1])) (u3 : P.underlying f3.type = some (.struct #[s0, s1]))
    (so0 : s0.offset = 0) (so1 : s1.offset = 1) (sc0 : P.cellsOf s0.type = 1) (sc1 : P.cellsOf s1.type = 1) (v0 : P.underlying s0.type = some (.int .i64)) (v1 : P.underlying s1.type = some (.int .i64))
    (he : P.underlying e = some (.struct #[g0, g1, g2])) (ce : P.cellsOf e = 3) (p0 : g0.offset = 0) (p1 : g1.offset = 1) (p2 : g2.offset = 2) (d0 : P.cellsOf g0.type = 1) (d1 : P.cellsOf g1.type = 1) (d2 : P.cellsOf g2.type = 1)
    (y0 : P.underlying g0.type = some (.int .i64)) (y1 : P.underlying g1.type = some (.int .i64)) (y2 : P.underlying g2.type = some .string) (hC : P.cellsOf t = 6)
    (hv : Value.okWide P w r b0 t v) (h : DataW.Trod enc P w base (fun _ => true) held t v d p) :
    ∃ (s a1 a2 a3 a4 : Int) (l : List Vl) (u : Value), v = .agg #[.int .i64 s, u, .int .i64 a1, .int .i64 a2, .int .i64 a3, .int .i64 a4] ∧ Rw w [] u l ∧ inI s ∧ inI a1 ∧ inI a2 ∧ inI a3 ∧ inI a4 ∧ ∀ a ∈ l, inI a.2.1 := by
  obtain ⟨cs, rfl, hsz⟩ := okWide_struct hs hv
  obtain ⟨x0, x1, x2, x3, x4, x5, rfl⟩ := sixA (hsz.trans hC)
  obtain ⟨fuel, hf⟩ := h
  obtain ⟨xs, k, _, _, _, hxl, hg⟩ := DataW.trod_struct hs hf
  match xs, hxl with
  | [z0, z1, z2, z3], _ =>
    have q0 := hg 0 f0 rfl
    have q1 := hg 1 f1 rfl
    have q2 := hg 2 f2 rfl
    have q3 := hg 3 f3 rfl
    rw [o0, c0] at q0
    rw [o1, c1] at q1
    rw [o2, c2] at q2
    rw [o3, c3] at q3
    obtain ⟨a0, e0, _, k0⟩ := DataW.trod_int u0 q0
    simp [Value.cells] at e0
    subst e0
    obtain ⟨l, _, hl, hq⟩ := open_row u1 he ce p0 p1 p2 d0 d1 d2 y0 y1 y2 (show DataW.trod enc P w base (fun _ => true) held k f1.type [x1] = some _ from by simpa [Value.cells] using q1)
    obtain ⟨ys, k2, _, _, _, yl, hg2⟩ := DataW.trod_struct u2 (show DataW.trod enc P w base (fun _ => true) held k f2.type [x2, x3] = some _ from by simpa [Value.cells] using q2)
    obtain ⟨zs, k3, _, _, _, zl, hg3⟩ := DataW.trod_struct u3 (show DataW.trod enc P w base (fun _ => true) held k f3.type [x4, x5] = some _ from by simpa [Value.cells] using q3)
    obtain ⟨y3, y4, rfl⟩ : ∃ a b, ys = [a, b] := by
      match ys, yl with
      | [a, b], _ => exact ⟨a, b, rfl⟩
    obtain ⟨w3, w4, rfl⟩ : ∃ a b, zs = [a, b] := by
      match zs, zl with
      | [a, b], _ => exact ⟨a, b, rfl⟩
    have r2 := hg2 0 s0 rfl
    have r3 := hg2 1 s1 rfl
    have r4 := hg3 0 s0 rfl
    have r5 := hg3 1 s1 rfl
    rw [so0, sc0] at r2 r4
    rw [so1, sc1] at r3 r5
    obtain ⟨b1, e1, _, k4⟩ := DataW.trod_int v0 r2
    obtain ⟨b2, e2, _, k5⟩ := DataW.trod_int v1 r3
    obtain ⟨b3, e3, _, k6⟩ := DataW.trod_int v0 r4
    obtain ⟨b4, e4, _, k7⟩ := DataW.trod_int v1 r5
    simp at e1 e2 e3 e4
    subst e1; subst e2; subst e3; subst e4
    exact ⟨a0, b1, b2, b3, b4, l, x1, rfl, hl, wf_i64 k0, wf_i64 k4, wf_i64 k5, wf_i64 k6, wf_i64 k7, hq⟩
end
end Go.Proofs.YtobmjcehgpmfgaaGreat
namespace Go.Proofs.YtobmjcehgpmfgaaGreat.Facts.foldEdges
open Go.ChangeShapes Go.WideShapes Go.ChangeAt Go.RowKit
theorem c1 : (Rows.foldEdgesRow.inPlace == Tryz.prog.inPlace 7) = true := by kernel_rfl
theorem c2 : (Rows.foldEdgesRow.unfollowed == Tryz.prog.unfollowed 7) = true := by kernel_rfl
theorem c3 : (Rows.foldEdgesRow.recurses == Tryz.prog.recurses 7) = true := by kernel_rfl
theorem c4 : (Rows.foldEdgesRow.named == Tryz.prog.varsNamed 7) = true := by kernel_rfl
theorem c5 : laidOutB Tryz.prog = true := by kernel_rfl
theorem c6 : mapsRowed Tryz.prog = true := by kernel_rfl
theorem closed : joinedFacts Tryz.prog 7 Tryz.f7 Rows.foldEdgesSpec Rows.foldEdgesRow = true := by
  unfold joinedFacts
  rw [c1, c2, c3, c4, c5, c6]
  kernel_rfl
end Go.Proofs.YtobmjcehgpmfgaaGreat.Facts.foldEdges
