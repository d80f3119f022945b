/-
  A helper of ours: no claim of its own. Layer 28 (hop): which windows are closed, as the statement asks; the walk of HopSettles.
-/
import Derived.Test.YtljkneajdndgjaaHopH
import Derived.Sort.LoopGhostIn
import Derived.Test.YtljkneajdndgjaaHopL
import Derived.Test.YtljkneajdndgjaaEdgQ
import Derived.Test.YtljkneajdndgjaaEdgB
import Derived.Test.YtljkneajdndgjaaHopF1
import Derived.Test.YtljkneajdndgjaaSnaH
import Derived.Test.YtljkneajdndgjaaHopS
import Derived.Test.YtljkneajdndgjaaEdgRo
set_option linter.unusedVariables false
set_option linter.unusedSimpArgs false
namespace Go.Proofs.Ytljkneajdndgjaa
open Go.RowKit
attribute [local go_sem] GW.cell GW.frozen In.eq_true In.le_true In.ne In.ne' In.ne_add In.ne_add' In.lt_add Upto.le_true Upto.le_add Upto.lt_add Oper.semAt_some wide_depth wide_fn
section
variable {P : Program} {w : World}
end
end Go.Proofs.Ytljkneajdndgjaa
set_option linter.unusedVariables false
set_option linter.unusedSimpArgs false
namespace Go.Proofs.Ytljkneajdndgjaa
open Go.RowKit
attribute [local go_sem] GW.cell GW.frozen In.eq_true In.le_true In.ne In.ne' In.ne_add In.ne_add' In.lt_add Upto.le_true Upto.le_add Upto.lt_add
end Go.Proofs.Ytljkneajdndgjaa
set_option linter.unusedVariables false
set_option linter.unusedSimpArgs false
namespace Go.Proofs.Ytljkneajdndgjaa
open Go.RowKit
attribute [local go_sem] GW.cell GW.frozen In.eq_true In.le_true In.ne In.ne' In.ne_add In.ne_add' In.lt_add Upto.le_true Upto.le_add Upto.lt_add
end Go.Proofs.Ytljkneajdndgjaa
set_option linter.unusedVariables false
set_option linter.unusedSimpArgs false
namespace Go.Proofs.Ytljkneajdndgjaa
open Go.RowKit
attribute [local go_sem] GW.cell GW.frozen In.eq_true In.le_true In.ne In.ne' In.ne_add In.ne_add' In.lt_add Upto.le_true Upto.le_add Upto.lt_add
set_option maxHeartbeats 8000000 in
set_option maxRecDepth 100000 in
theorem refEdgeSame_c {L M : List Ve} {v u : Value} {w : World} (hl : Ew w [] v L) (hm : Ew w [] u M) : Calls Try.prog 17 #[v, u] w fun e w' => e = .returned (.bool (decide (eds L = eds M))) ∧ Ext w w' := by
  obtain ⟨A, cap, rfl, hlc, hlm, hat⟩ := ew_form hl
  obtain ⟨B, cap2, rfl, hmc, hmm, hbt⟩ := ew_form hm
  unfold maxLen at hlm hmm
  have hrl := hide hl.2
  have hrm := hide hm.2
  clear hl hm
  replace hat := hide hat
  replace hbt := hide hbt
  obtain ⟨R, hR⟩ : ∃ R, R = decide (eds L = eds M) := ⟨_, rfl⟩
  rw [← hR]
  rw [← eqP_eds] at hR
  by_cases hn : L.length = M.length
  · replace hR := hide hR
    obtain ⟨n, hln⟩ : ∃ n, n = L.length := ⟨_, rfl⟩
    have hmn : n = M.length := by omega
    rw [← hln] at hlc ⊢
    rw [← hmn] at hmc ⊢
    have hlI := hide hln
    have hmI := hide hmn
    clear hn hln hmn
    go_enter Try.func17, Try.ntmps17
    go_wp2_with fail
    go_loopg [5] n (fun gh i wr => ∃ (k : Nat), i = .int .i64 k ∧ k + gh = n ∧ Hid (R = eqP (fun x y : Ve => decide (x.2 = y.2)) (L.drop k) (M.drop k)) ∧ Ext w wr)
    case atStart => exact ⟨0, rfl, by omega, hR, Ext.refl w⟩
    case round =>
      obtain ⟨k, rfl, hk, hRk, hX⟩ := hrel
      clear hR
      by_cases hlt : k < n
      · obtain ⟨x, hx⟩ : ∃ x, L[k]? = some x := ⟨_, List.getElem?_eq_getElem (by have := hlI.out; omega)⟩
        obtain ⟨y, hy⟩ : ∃ y, M[k]? = some y := ⟨_, List.getElem?_eq_getElem (by have := hmI.out; omega)⟩
        obtain ⟨b, o, rfl, -, hb, c0, c1, c2⟩ := hat.out k x hx
        obtain ⟨b', o', rfl, -, hb', d0, d1, d2⟩ := hbt.out k y hy
        have k0 := cell_later hX c0
        have k1 := cell_later hX c1
        have k2 := cell_later hX c2
        have j0 := cell_later hX d0
        have j1 := cell_later hX d1
        have j2 := cell_later hX d2
        have hbr : b < wr.heap.size := block_lt_of_cell k0
        have hbr' : b' < wr.heap.size := block_lt_of_cell j0
        haveI : In b wr := ⟨hbr⟩
        haveI : In b' wr := ⟨hbr'⟩
        have hrx := Sl.ext (hrl.out x (List.mem_of_getElem? hx)) hX
        have hry := Sl.ext (hrm.out y (List.mem_of_getElem? hy)) hX
        have hR2 := hRk.out
        rw [drop_cons hx, drop_cons hy] at hR2
        obtain ⟨xv, xq, xa, xn⟩ := x
        obtain ⟨yv, yq, ya, yn⟩ := y
        simp only at k0 k1 k2 j0 j1 j2 hrx hry
        have hq := hide (fun w' (hXw : Ext wr w') => refRowSame_c (Sl.ext hrx hXw) (Sl.ext hry hXw))
        obtain ⟨XA, xcap, rfl⟩ := rw_val hrx
        obtain ⟨YA, ycap, rfl⟩ := rw_val hry
        have hyes : Hid ((xq, (xa, xn)) = (yq, (ya, yn)) → R = eqP (fun x y : Ve => decide (x.2 = y.2)) (L.drop (k + 1)) (M.drop (k + 1))) := fun h => by
          rw [hR2]; exact eqP_yes (p := (fun x y : Ve => decide (x.2 = y.2))) (x := (.slice XA xq.length xcap, xq, xa, xn)) (y := (.slice YA yq.length ycap, yq, ya, yn)) (decide_eq_true h)
        have hno : Hid ((xq, (xa, xn)) ≠ (yq, (ya, yn)) → R = false) := fun h => by
          rw [hR2]; exact eqP_no (p := (fun x y : Ve => decide (x.2 = y.2))) (x := (.slice XA xq.length xcap, xq, xa, xn)) (y := (.slice YA yq.length ycap, yq, ya, yn)) (decide_eq_false h)
        clear c0 c1 c2 d0 d1 d2 hat hbt hx hy hlI hmI hRk hrx hry hrl hrm hR2
        by_cases e1 : xa = ya
        · by_cases e2 : xn = yn
          · subst e1; subst e2
            by_cases e3 : xq = yq
            · have hf := hide (hyes.out (by rw [e3]))
              rw [decide_eq_true e3] at hq
              have b1 : (xa != xa) = false := by simp
              have b2 : (xn != xn) = false := by simp
              replace e3 := hide e3
              clear hyes hno
              go_wp2_with fail
              refine wp_region_gw (by kernel_rfl) (by kernel_rfl) ?_
              repeat (go_big_quiet_step ((go_at_call 40; with_reducible exact quiet_gw (hq.out _ (GW.grown _)))))
              refine wpQuiet_nil ?_
              intro g
              go_wp2_with fail
              go_roundg (n - (k + 1))
              case measure => omega
              case rel => exact ⟨k + 1, by go_num, by omega, hf, hX.trans g.grown⟩
            · have hf := hide (hno.out (fun h => e3 (Prod.mk.inj h).1))
              rw [decide_eq_false e3] at hq
              have b1 : (xa != xa) = false := by simp
              have b2 : (xn != xn) = false := by simp
              replace e3 := hide e3
              clear hyes hno
              go_wp2_with fail
              refine wp_region_gw (by kernel_rfl) (by kernel_rfl) ?_
              repeat (go_big_quiet_step ((go_at_call 40; with_reducible exact quiet_gw (hq.out _ (GW.grown _)))))
              refine wpQuiet_nil ?_
              intro g
              go_wp2_with fail
              go_returns
              exact ⟨by rw [hf.out]; rfl, hX.trans g.grown⟩
          · subst e1
            have hf := hide (hno.out (fun h => e2 (Prod.mk.inj (Prod.mk.inj h).2).2))
            have b1 : (xa != xa) = false := by simp
            have b2 : (xn != yn) = true := by simp [e2]
            replace e2 := hide e2
            clear hyes hno hq
            go_wp2_with fail
            refine wp_region_gw (by kernel_rfl) (by kernel_rfl) ?_
            repeat (go_big_quiet_step (fail))
            refine wpQuiet_nil ?_
            intro g
            go_wp2_with fail
            go_returns
            exact ⟨by rw [hf.out]; rfl, hX.trans g.grown⟩
        · have hf := hide (hno.out (fun h => e1 (Prod.mk.inj (Prod.mk.inj h).2).1))
          have b1 : (xa != ya) = true := by simp [e1]
          replace e1 := hide e1
          clear hyes hno hq
          go_wp2_with fail
          refine wp_region_gw (by kernel_rfl) (by kernel_rfl) ?_
          repeat (go_big_quiet_step (fail))
          refine wpQuiet_nil ?_
          intro g
          go_wp2_with fail
          go_returns
          exact ⟨by rw [hf.out]; rfl, hX.trans g.grown⟩
      · have hk' : k = n := by omega
        have hge : (n : Int) ≤ k := by omega
        have hR2 := hRk.out
        rw [List.drop_eq_nil_of_le (by have := hlI.out; omega), List.drop_eq_nil_of_le (by have := hmI.out; omega)] at hR2
        replace hR2 : R = true := hR2
        replace hR2 := hide hR2
        replace hk' := hide hk'
        go_wp2_with fail
        go_returns
        exact ⟨by rw [hR2.out]; rfl, hX⟩
  · have hR2 := hR.trans (eqP_len hn)
    replace hR2 := hide hR2
    have hnI : ¬ (L.length : Int) = M.length := by omega
    clear hR hn
    go_enter Try.func17, Try.ntmps17
    go_wp2_with fail
    go_returns
    exact ⟨by rw [hR2.out]; rfl, Ext.refl w⟩
end Go.Proofs.Ytljkneajdndgjaa
set_option linter.unusedVariables false
set_option linter.unusedSimpArgs false
namespace Go.Proofs.Ytljkneajdndgjaa
open Go.RowKit
attribute [local go_sem] GW.cell GW.frozen In.eq_true In.le_true In.ne In.ne' In.ne_add In.ne_add' In.lt_add Upto.le_true Upto.le_add Upto.lt_add
end Go.Proofs.Ytljkneajdndgjaa
