/-
  A helper of ours: no claim of its own. What the functions of layer 2 (span), and those of the document's own answer, return: one contract each.
-/
import Derived.Test.YtajelkkiijdegaaGreatFolA
import Derived.Laws.FloatArith
import Derived.Laws.ComplexArith
import Derived.Test.YtajelkkiijdegaaGreatRows
import Derived.Test.YtajelkkiijdegaaGreatGw
import Derived.Handy
set_option linter.unusedVariables false
set_option linter.unusedSimpArgs false
namespace Go.Proofs.YtajelkkiijdegaaGreat
open Go.RowKit
attribute [local go_sem] GW.cell GW.frozen In.eq_true In.le_true In.ne In.ne' In.ne_add In.ne_add' In.lt_add Upto.le_true Upto.le_add Upto.lt_add
theorem look_form {w : World} {mb n : Nat} {T : List Ke} (h : Kn w mb n T) (hR : ∀ p ∈ T, Rw w [] p.1 p.2.2.2.1) {id : Int} (hi : inI id) : ∃ (a0 : Int) (PA : Option Addr) (pl pc : Nat) (a2 a3 a4 a5 : Int) (kb : Bool), (∀ w' [Gn w w'], (Instr.lookup 210 (.map (some mb)) (.int .i64 id) true).run Tryz.prog w' = .ok (.tuple #[.agg #[.int .i64 a0, .slice PA pl pc, .int .i64 a2, .int .i64 a3, .int .i64 a4, .int .i64 a5], .bool kb]) w') ∧
    kb = (atK T id).isSome ∧ (∀ p, atK T id = some p → a4 = p.2.2.2.2.2.1 ∧ a5 = p.2.2.2.2.2.2) := by
  have hl := look_ok h hi
  cases ha : atK T id with
  | none =>
    rw [ha] at hl
    exact ⟨0, none, 0, 0, 0, 0, 0, 0, false, hl, rfl, fun p hp => by cases hp⟩
  | some p =>
    rw [ha] at hl
    obtain ⟨PA, pc, e⟩ := rw_val (hR p (atK_some ha).1)
    have e2 : knV (some p) = .agg #[.int .i64 p.2.2.1, .slice PA p.2.2.2.1.length pc, .int .i64 p.2.2.2.2.1.1, .int .i64 p.2.2.2.2.1.2, .int .i64 p.2.2.2.2.2.1, .int .i64 p.2.2.2.2.2.2] := by
      show chV p.1 p.2.2 = _
      rw [← e]
    rw [e2] at hl
    exact ⟨_, PA, _, pc, _, _, _, _, true, hl, rfl, fun q hq => by obtain rfl := Option.some.inj hq; exact ⟨rfl, rfl⟩⟩
set_option maxHeartbeats 8000000 in
set_option maxRecDepth 100000 in
theorem result_c (s mb n : Nat) (c ser : Int) (T : List Ke) (k i f t : Int) (l : List Vl) (v : Value) (hi : inI i) (w : World) (h : Fs w s mb n c ser T) (hR : ∀ p ∈ T, Rw w [] p.1 p.2.2.2.1) (hv : Rw w [] v l) : Calls Tryz.prog 150 #[.pointer (some ⟨s, 0, none⟩), mg k i f t v] w fun e w' => e = .returned (.int .i64 (chkO c (knK (atK T i)) ((k, i, f, t), l))) ∧ Ext w w' := by
  have c0 := h.1.cell 0 rfl
  have c2 := h.1.cell 2 rfl
  have hlt := h.1.lt
  haveI : In s w := ⟨hlt⟩
  obtain ⟨a0, PA, pl, pc, a2, a3, a4, a5, kb, hl, hkb, hp⟩ := look_form h.2 hR hi
  have hck := hide (fun w' (hX : Ext w w') => check_c k i f t l v w' (Sl.ext hv hX))
  have hsy := hide (fun w' (hX : Ext w w') => sync_c k i f t l v w' (Sl.ext hv hX))
  obtain ⟨VA, vc, rfl⟩ := rw_val hv
  generalize l.length = vl at *
  clear h hR hv
  have hX0 := hide (Ext.refl w)
  obtain ⟨E, hE⟩ : ∃ E, E = mchk k i f t l := ⟨_, rfl⟩
  have hmk : mkM ((k, i, f, t), l) = E := hE.symm
  obtain ⟨R, hR⟩ : ∃ R, R = chkO c (knK (atK T i)) ((k, i, f, t), l) := ⟨_, rfl⟩
  rw [← hR]
  rw [← hE] at hck
  unfold chkO at hR
  rw [hmk] at hR
  have hY : E = 0 → msync k i f t l = if k = 2 then t else f := fun h0 => by unfold msync; rw [← hE, if_pos h0]
  generalize msync k i f t l = Y at *
  replace hE := hide hE
  clear hmk
  have hkn : kb = false → knK (atK T i) = none := fun hb => by
    rw [hb] at hkb
    cases ha : atK T i with
    | none => rfl
    | some p => rw [ha] at hkb; cases hkb
  have hks : kb = true → ∃ q, knK (atK T i) = some q ∧ q.2 = (a4, a5) := fun hb => by
    rw [hb] at hkb
    cases ha : atK T i with
    | none => rw [ha] at hkb; cases hkb
    | some p =>
      obtain ⟨e1, e2⟩ := hp p ha
      exact ⟨_, rfl, by rw [e1, e2]⟩
  clear hkb hp
  generalize knK (atK T i) = o at *
  by_cases h0 : E = 0
  · rw [if_neg (by simpa using h0)] at hR
    have hY0 := hY h0
    subst h0
    clear hY
    by_cases hk2 : k = 2
    · subst hk2
      rw [if_pos rfl] at hR
      rw [if_pos rfl] at hY0
      subst hY0
      cases kb
      · rw [hkn rfl] at hR
        simp only at hR
        subst hR
        clear hkn hks
        go_enter Tryz.func150, Tryz.ntmps150
        go_wp2_with (go_at_call 87; first | ((with_reducible refine seq_gw' (hck.out _ (hX0.out.alloc _)) ?_); intro g) | ((with_reducible refine seq_gw (hck.out _ (hX0.out.alloc _)) ?_); intro g))
        go_region
        go_wp2_with fail
        go_returns
        exact ⟨by first | rfl | simp, Gn.ext⟩
      · obtain ⟨q, hq, hq2⟩ := hks rfl
        rw [hq] at hR
        simp only [hq2] at hR
        clear hkn hks hq hq2
        by_cases h5 : a5 ≤ Y
        · rw [if_pos h5] at hR
          subst hR
          have d5 : decide (a5 ≤ Y) = true := decide_eq_true h5
          go_enter Tryz.func150, Tryz.ntmps150
          go_wp2_with (go_at_call 87; first | ((with_reducible refine seq_gw' (hck.out _ (hX0.out.alloc _)) ?_); intro g) | ((with_reducible refine seq_gw (hck.out _ (hX0.out.alloc _)) ?_); intro g))
          go_region
          go_wp2_with fail
          go_returns
          exact ⟨by first | rfl | simp, Gn.ext⟩
        · rw [if_neg h5] at hR
          have d5 : decide (a5 ≤ Y) = false := decide_eq_false h5
          by_cases h4 : Y < a4
          · rw [if_pos h4] at hR
            subst hR
            have d4 : decide (Y < a4) = true := decide_eq_true h4
            go_enter Tryz.func150, Tryz.ntmps150
            go_wp2_with (go_at_call 87; first | ((with_reducible refine seq_gw' (hck.out _ (hX0.out.alloc _)) ?_); intro g) | ((with_reducible refine seq_gw (hck.out _ (hX0.out.alloc _)) ?_); intro g))
            go_region
            go_wp2_with fail
            go_returns
            exact ⟨by first | rfl | simp, Gn.ext⟩
          · rw [if_neg h4] at hR
            have d4 : decide (Y < a4) = false := decide_eq_false h4
            by_cases hc : Y < c
            · rw [if_pos hc] at hR
              subst hR
              have dc : decide (Y < c) = true := decide_eq_true hc
              go_enter Tryz.func150, Tryz.ntmps150
              go_wp2_with (go_at_call 87; first | ((with_reducible refine seq_gw' (hck.out _ (hX0.out.alloc _)) ?_); intro g) | ((with_reducible refine seq_gw (hck.out _ (hX0.out.alloc _)) ?_); intro g))
              go_region
              go_wp2_with fail
              refine wp_region_gw (by kernel_rfl) (by kernel_rfl) ?_
              repeat (go_big_quiet_step ((go_at_call 200; with_reducible exact quiet_gw (hsy.out _ (Gn.ext (w := w))))))
              refine wpQuiet_nil ?_
              intro g2
              go_wp2_with fail
              go_returns
              exact ⟨by first | rfl | simp, Gn.ext⟩
            · rw [if_neg hc] at hR
              subst hR
              have dc : decide (Y < c) = false := decide_eq_false hc
              go_enter Tryz.func150, Tryz.ntmps150
              go_wp2_with (go_at_call 87; first | ((with_reducible refine seq_gw' (hck.out _ (hX0.out.alloc _)) ?_); intro g) | ((with_reducible refine seq_gw (hck.out _ (hX0.out.alloc _)) ?_); intro g))
              go_region
              go_wp2_with fail
              refine wp_region_gw (by kernel_rfl) (by kernel_rfl) ?_
              repeat (go_big_quiet_step ((go_at_call 200; with_reducible exact quiet_gw (hsy.out _ (Gn.ext (w := w))))))
              refine wpQuiet_nil ?_
              intro g2
              go_wp2_with fail
              go_returns
              exact ⟨by first | rfl | simp, Gn.ext⟩
    · rw [if_neg hk2] at hR
      rw [if_neg hk2] at hY0
      subst hY0
      have k2 : (k == 2) = false := by simp [hk2]
      by_cases hc : Y < c
      · rw [if_pos hc] at hR
        subst hR
        have dc : decide (Y < c) = true := decide_eq_true hc
        clear hkn hks
        replace hk2 := hide hk2
        go_enter Tryz.func150, Tryz.ntmps150
        go_wp2_with (go_at_call 87; first | ((with_reducible refine seq_gw' (hck.out _ (hX0.out.alloc _)) ?_); intro g) | ((with_reducible refine seq_gw (hck.out _ (hX0.out.alloc _)) ?_); intro g))
        go_region
        go_wp2_with fail
        refine wp_region_gw (by kernel_rfl) (by kernel_rfl) ?_
        repeat (go_big_quiet_step ((go_at_call 200; with_reducible exact quiet_gw (hsy.out _ (Gn.ext (w := w))))))
        refine wpQuiet_nil ?_
        intro g2
        go_wp2_with fail
        go_returns
        exact ⟨by first | rfl | simp, Gn.ext⟩
      · rw [if_neg hc] at hR
        have dc : decide (Y < c) = false := decide_eq_false hc
        by_cases hk1 : k = 1
        · subst hk1
          cases kb
          · rw [hkn rfl, if_neg (by simp)] at hR
            subst hR
            clear hkn hks hk2 k2
            go_enter Tryz.func150, Tryz.ntmps150
            go_wp2_with (go_at_call 87; first | ((with_reducible refine seq_gw' (hck.out _ (hX0.out.alloc _)) ?_); intro g) | ((with_reducible refine seq_gw (hck.out _ (hX0.out.alloc _)) ?_); intro g))
            go_region
            go_wp2_with fail
            refine wp_region_gw (by kernel_rfl) (by kernel_rfl) ?_
            repeat (go_big_quiet_step ((go_at_call 200; with_reducible exact quiet_gw (hsy.out _ (Gn.ext (w := w))))))
            refine wpQuiet_nil ?_
            intro g2
            go_wp2_with fail
            go_returns
            exact ⟨by first | rfl | simp, Gn.ext⟩
          · obtain ⟨q, hq, -⟩ := hks rfl
            rw [hq, if_pos (by simp)] at hR
            subst hR
            clear hkn hks hk2 k2 hq
            go_enter Tryz.func150, Tryz.ntmps150
            go_wp2_with (go_at_call 87; first | ((with_reducible refine seq_gw' (hck.out _ (hX0.out.alloc _)) ?_); intro g) | ((with_reducible refine seq_gw (hck.out _ (hX0.out.alloc _)) ?_); intro g))
            go_region
            go_wp2_with fail
            refine wp_region_gw (by kernel_rfl) (by kernel_rfl) ?_
            repeat (go_big_quiet_step ((go_at_call 200; with_reducible exact quiet_gw (hsy.out _ (Gn.ext (w := w))))))
            refine wpQuiet_nil ?_
            intro g2
            go_wp2_with fail
            go_returns
            exact ⟨by first | rfl | simp, Gn.ext⟩
        · rw [if_neg (by intro hh; exact hk1 hh.1)] at hR
          subst hR
          have k1 : (k == 1) = false := by simp [hk1]
          replace hk1 := hide hk1
          replace hk2 := hide hk2
          clear hkn hks
          go_enter Tryz.func150, Tryz.ntmps150
          go_wp2_with (go_at_call 87; first | ((with_reducible refine seq_gw' (hck.out _ (hX0.out.alloc _)) ?_); intro g) | ((with_reducible refine seq_gw (hck.out _ (hX0.out.alloc _)) ?_); intro g))
          go_region
          go_wp2_with fail
          refine wp_region_gw (by kernel_rfl) (by kernel_rfl) ?_
          repeat (go_big_quiet_step ((go_at_call 200; with_reducible exact quiet_gw (hsy.out _ (Gn.ext (w := w))))))
          refine wpQuiet_nil ?_
          intro g2
          go_wp2_with fail
          go_returns
          exact ⟨by first | rfl | simp, Gn.ext⟩
  · rw [if_pos (by simpa using h0)] at hR
    rw [hR]
    clear hR
    have e0 : (E != 0) = true := by simp [h0]
    replace h0 := hide h0
    clear hkn hks hY
    go_enter Tryz.func150, Tryz.ntmps150
    go_wp2_with (go_at_call 87; first | ((with_reducible refine seq_gw' (hck.out _ (hX0.out.alloc _)) ?_); intro g) | ((with_reducible refine seq_gw (hck.out _ (hX0.out.alloc _)) ?_); intro g))
    go_region
    go_wp2_with fail
    go_returns
    exact ⟨by first | rfl | simp, Gn.ext⟩
end Go.Proofs.YtajelkkiijdegaaGreat
set_option linter.unusedVariables false
namespace Go.Proofs.YtajelkkiijdegaaGreat.Floats
open Ieee

end Go.Proofs.YtajelkkiijdegaaGreat.Floats
set_option linter.unusedVariables false
set_option linter.unusedSimpArgs false
namespace Go.Proofs.YtajelkkiijdegaaGreat
open Go.RowKit
attribute [local go_sem] GW.cell GW.frozen In.eq_true In.le_true In.ne In.ne' In.ne_add In.ne_add' In.lt_add Upto.le_true Upto.le_add Upto.lt_add


def isTickB (t : Int) : Bool := decide (0 ≤ t) && decide (t ≤ 1125899906842624)
def smayB (a b : Int) : Bool := isTickB a && isTickB b && decide (a < b)
/-- A number, if there is one. -/
def sokF (ok : Bool) (a : Int) : Int := if ok then a else 0
theorem mayB_lt {a b : Int} (h : smayB a b = true) : a < b ∧ 0 ≤ a ∧ a ≤ 1125899906842624 ∧ 0 ≤ b ∧ b ≤ 1125899906842624 := by
  simp [smayB, isTickB] at h; omega
theorem isTick_c (t : Int) (w : World) : Calls Tryz.prog 163 #[.int .i64 t] w fun e w' => e = .returned (.bool (isTickB t)) ∧ w = w' := by
  by_cases h0 : 0 ≤ t <;> by_cases h1 : t ≤ 1125899906842624
  all_goals
    go_enter Tryz.func163, Tryz.ntmps163
    go_wp2_with fail
    all_goals
      go_returns
      refine ⟨by first | rfl | (simp [isTickB, h0, h1]; done) | (simp [isTickB, h0, h1]; omega), ?_⟩
      exact rfl

theorem smay_c (a b : Int) (w : World) : Calls Tryz.prog 109 #[.agg #[.int .i64 (a), .int .i64 (b)]] w fun e w' => e = .returned (.bool (smayB a b)) ∧ Ext w w' := by
  cases h0 : isTickB a <;> cases h1 : isTickB b <;> by_cases h2 : a < b
  all_goals
    go_enter Tryz.func109, Tryz.ntmps109
    go_wp2_with (go_at_call 163; refine (isTick_c _ _).mono ?_; rintro e w' ⟨rfl, rfl⟩)
    all_goals
      go_returns
      refine ⟨by first | rfl | (simp [smayB, h0, h1, h2]; done) | (simp [smayB, h0, h1, h2]; omega), ?_⟩
      repeat (first | exact Ext.refl _ | with_reducible assumption | refine Ext.alloc ?_ _ | refine Ext.drew ?_ | refine Ext.drewN ?_ _ | refine ext_gw ?_ _ | refine Ext.setCell ?_ (by first | (simp; done) | (simp [Upto.le_true, Upto.le_add]; done) | (simp; omega)) _)

theorem unless_c (a b : Int) (w : World) : Calls Tryz.prog 239 #[.int .i64 a, .int .i64 b] w fun e w' => e = .returned (.tuple #[.agg #[.int .i64 (sokF (decide (a < b)) (a)), .int .i64 (sokF (decide (a < b)) (b))], .bool (decide (a < b))]) ∧ Ext w w' := by
  by_cases h : a < b
  all_goals
    go_enter Tryz.func239, Tryz.ntmps239
    go_wp2_with fail
    all_goals
      go_returns
      refine ⟨by first | rfl | (simp [sokF, h]; done) | (simp [sokF, h]; omega), ?_⟩
      repeat (first | exact Ext.refl _ | with_reducible assumption | refine Ext.alloc ?_ _ | refine Ext.drew ?_ | refine Ext.drewN ?_ _ | refine ext_gw ?_ _ | refine Ext.setCell ?_ (by first | (simp; done) | (simp [Upto.le_true, Upto.le_add]; done) | (simp; omega)) _)

def aheadB (a b t : Int) : Bool := smayB a b && decide (a < t)
theorem ahead_c (a b t : Int) (w : World) : Calls Tryz.prog 201 #[.agg #[.int .i64 (a), .int .i64 (b)], .int .i64 t] w fun e w' => e = .returned (.tuple #[.agg #[.int .i64 (sokF (aheadB a b t) (a)), .int .i64 (sokF (aheadB a b t) (min b t))], .bool (aheadB a b t)]) ∧ Ext w w' := by
  cases h0 : smayB a b
  · go_enter Tryz.func201, Tryz.ntmps201
    go_wp2_with (first | (go_at_call 109; (first | refine seq_gw' (smay_c _ _ _) ?_ | refine seq_gw (smay_c _ _ _) ?_); intro g) | (go_at_call 239; (first | refine seq_gw' (unless_c _ _ _) ?_ | refine seq_gw (unless_c _ _ _) ?_); intro g))
    all_goals
      go_returns
      refine ⟨by first | rfl | (simp [aheadB, sokF, *]; done) | (simp [aheadB, sokF, *]; omega), ?_⟩
      repeat (first | exact Ext.refl _ | with_reducible assumption | refine Ext.alloc ?_ _ | refine Ext.drew ?_ | refine Ext.drewN ?_ _ | refine ext_gw ?_ _ | refine Ext.setCell ?_ (by first | (simp; done) | (simp [Upto.le_true, Upto.le_add]; done) | (simp; omega)) _)
  obtain ⟨l1, l2, l3, l4, l5⟩ := mayB_lt h0
  by_cases h1 : a < t
  · go_enter Tryz.func201, Tryz.ntmps201
    go_wp2_with (first | (go_at_call 109; (first | refine seq_gw' (smay_c _ _ _) ?_ | refine seq_gw (smay_c _ _ _) ?_); intro g) | (go_at_call 239; (first | refine seq_gw' (unless_c _ _ _) ?_ | refine seq_gw (unless_c _ _ _) ?_); intro g))
    all_goals
      go_returns
      refine ⟨by first | rfl | (simp [aheadB, sokF, *]; done) | (simp [aheadB, sokF, *]; omega), ?_⟩
      repeat (first | exact Ext.refl _ | with_reducible assumption | refine Ext.alloc ?_ _ | refine Ext.drew ?_ | refine Ext.drewN ?_ _ | refine ext_gw ?_ _ | refine Ext.setCell ?_ (by first | (simp; done) | (simp [Upto.le_true, Upto.le_add]; done) | (simp; omega)) _)
  go_enter Tryz.func201, Tryz.ntmps201
  go_wp2_with (first | (go_at_call 109; (first | refine seq_gw' (smay_c _ _ _) ?_ | refine seq_gw (smay_c _ _ _) ?_); intro g) | (go_at_call 239; (first | refine seq_gw' (unless_c _ _ _) ?_ | refine seq_gw (unless_c _ _ _) ?_); intro g))
  all_goals
    go_returns
    refine ⟨by first | rfl | (simp [aheadB, sokF, *]; done) | (simp [aheadB, sokF, *]; omega), ?_⟩
    repeat (first | exact Ext.refl _ | with_reducible assumption | refine Ext.alloc ?_ _ | refine Ext.drew ?_ | refine Ext.drewN ?_ _ | refine ext_gw ?_ _ | refine Ext.setCell ?_ (by first | (simp; done) | (simp [Upto.le_true, Upto.le_add]; done) | (simp; omega)) _)




end Go.Proofs.YtajelkkiijdegaaGreat
