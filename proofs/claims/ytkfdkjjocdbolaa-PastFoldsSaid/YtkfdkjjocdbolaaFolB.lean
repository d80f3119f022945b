/-
  A helper of ours: no claim of its own. Layer 13 (fold): a message's result, by the code.
-/
import Derived.Test.YtkfdkjjocdbolaaFolA
set_option linter.unusedVariables false
set_option linter.unusedSimpArgs false
namespace Go.Proofs.Ytkfdkjjocdbolaa
open Go.RowKit
attribute [local go_sem] GW.cell GW.frozen In.eq_true In.le_true In.ne In.ne' In.ne_add In.ne_add' In.lt_add Upto.le_true Upto.le_add Upto.lt_add
theorem look_form {w : World} {mb n : Nat} {T : List Ke} (h : Kn w mb n T) (hR : ∀ p ∈ T, Rw w [] p.1 p.2.2.2.1) {id : Int} (hi : inI id) : ∃ (a0 : Int) (PA : Option Addr) (pl pc : Nat) (a2 a3 a4 a5 : Int) (kb : Bool), (∀ w' [Gn w w'], (Instr.lookup 85 (.map (some mb)) (.int .i64 id) true).run Try.prog w' = .ok (.tuple #[.agg #[.int .i64 a0, .slice PA pl pc, .int .i64 a2, .int .i64 a3, .int .i64 a4, .int .i64 a5], .bool kb]) w') ∧
    kb = (atK T id).isSome ∧ (∀ p, atK T id = some p → a4 = p.2.2.2.2.2.1 ∧ a5 = p.2.2.2.2.2.2) := by
  have hl := look_ok h hi
  cases ha : atK T id with
  | none =>
    rw [ha] at hl
    exact ⟨0, none, 0, 0, 0, 0, 0, 0, false, hl, rfl, fun p hp => by cases hp⟩
  | some p =>
    rw [ha] at hl
    obtain ⟨PA, pc, e⟩ := rw_val (hR p (atK_some ha).1)
    have e2 : knV (some p) = .agg #[.int .i64 p.2.2.1, .slice PA p.2.2.2.1.length pc, .int .i64 p.2.2.2.2.1.1, .int .i64 p.2.2.2.2.1.2, .int .i64 p.2.2.2.2.2.1, .int .i64 p.2.2.2.2.2.2] := by
      show chV p.1 p.2.2 = _
      rw [← e]
    rw [e2] at hl
    exact ⟨_, PA, _, pc, _, _, _, _, true, hl, rfl, fun q hq => by obtain rfl := Option.some.inj hq; exact ⟨rfl, rfl⟩⟩
set_option maxHeartbeats 8000000 in
set_option maxRecDepth 100000 in
theorem result_c (s mb n : Nat) (c ser : Int) (T : List Ke) (k i f t : Int) (l : List Vl) (v : Value) (hi : inI i) (w : World) (h : Fs w s mb n c ser T) (hR : ∀ p ∈ T, Rw w [] p.1 p.2.2.2.1) (hv : Rw w [] v l) : Calls Try.prog 39 #[.pointer (some ⟨s, 0, none⟩), mg k i f t v] w fun e w' => e = .returned (.int .i64 (chkO c (knK (atK T i)) ((k, i, f, t), l))) ∧ Ext w w' := by
  have c0 := h.1.cell 0 rfl
  have c2 := h.1.cell 2 rfl
  have hlt := h.1.lt
  haveI : In s w := ⟨hlt⟩
  obtain ⟨a0, PA, pl, pc, a2, a3, a4, a5, kb, hl, hkb, hp⟩ := look_form h.2 hR hi
  have hck := hide (fun w' (hX : Ext w w') => check_c k i f t l v w' (Sl.ext hv hX))
  have hsy := hide (fun w' (hX : Ext w w') => sync_c k i f t l v w' (Sl.ext hv hX))
  obtain ⟨VA, vc, rfl⟩ := rw_val hv
  generalize l.length = vl at *
  clear h hR hv
  have hX0 := hide (Ext.refl w)
  obtain ⟨E, hE⟩ : ∃ E, E = mchk k i f t l := ⟨_, rfl⟩
  have hmk : mkM ((k, i, f, t), l) = E := hE.symm
  obtain ⟨R, hR⟩ : ∃ R, R = chkO c (knK (atK T i)) ((k, i, f, t), l) := ⟨_, rfl⟩
  rw [← hR]
  rw [← hE] at hck
  unfold chkO at hR
  rw [hmk] at hR
  have hY : E = 0 → msync k i f t l = if k = 2 then t else f := fun h0 => by unfold msync; rw [← hE, if_pos h0]
  generalize msync k i f t l = Y at *
  replace hE := hide hE
  clear hmk
  have hkn : kb = false → knK (atK T i) = none := fun hb => by
    rw [hb] at hkb
    cases ha : atK T i with
    | none => rfl
    | some p => rw [ha] at hkb; cases hkb
  have hks : kb = true → ∃ q, knK (atK T i) = some q ∧ q.2 = (a4, a5) := fun hb => by
    rw [hb] at hkb
    cases ha : atK T i with
    | none => rw [ha] at hkb; cases hkb
    | some p =>
      obtain ⟨e1, e2⟩ := hp p ha
      exact ⟨_, rfl, by rw [e1, e2]⟩
  clear hkb hp
  generalize knK (atK T i) = o at *
  by_cases h0 : E = 0
  · rw [if_neg (by simpa using h0)] at hR
    have hY0 := hY h0
    subst h0
    clear hY
    by_cases hk2 : k = 2
    · subst hk2
      rw [if_pos rfl] at hR
      rw [if_pos rfl] at hY0
      subst hY0
      cases kb
      · rw [hkn rfl] at hR
        simp only at hR
        subst hR
        clear hkn hks
        go_enter Try.func39, Try.ntmps39
        go_wp2_with (go_at_call 44; first | ((with_reducible refine seq_gw' (hck.out _ (hX0.out.alloc _)) ?_); intro g) | ((with_reducible refine seq_gw (hck.out _ (hX0.out.alloc _)) ?_); intro g))
        go_region
        go_wp2_with fail
        go_returns
        exact ⟨by first | rfl | simp, Gn.ext⟩
      · obtain ⟨q, hq, hq2⟩ := hks rfl
        rw [hq] at hR
        simp only [hq2] at hR
        clear hkn hks hq hq2
        by_cases h5 : a5 ≤ Y
        · rw [if_pos h5] at hR
          subst hR
          have d5 : decide (a5 ≤ Y) = true := decide_eq_true h5
          go_enter Try.func39, Try.ntmps39
          go_wp2_with (go_at_call 44; first | ((with_reducible refine seq_gw' (hck.out _ (hX0.out.alloc _)) ?_); intro g) | ((with_reducible refine seq_gw (hck.out _ (hX0.out.alloc _)) ?_); intro g))
          go_region
          go_wp2_with fail
          go_returns
          exact ⟨by first | rfl | simp, Gn.ext⟩
        · rw [if_neg h5] at hR
          have d5 : decide (a5 ≤ Y) = false := decide_eq_false h5
          by_cases h4 : Y < a4
          · rw [if_pos h4] at hR
            subst hR
            have d4 : decide (Y < a4) = true := decide_eq_true h4
            go_enter Try.func39, Try.ntmps39
            go_wp2_with (go_at_call 44; first | ((with_reducible refine seq_gw' (hck.out _ (hX0.out.alloc _)) ?_); intro g) | ((with_reducible refine seq_gw (hck.out _ (hX0.out.alloc _)) ?_); intro g))
            go_region
            go_wp2_with fail
            go_returns
            exact ⟨by first | rfl | simp, Gn.ext⟩
          · rw [if_neg h4] at hR
            have d4 : decide (Y < a4) = false := decide_eq_false h4
            by_cases hc : Y < c
            · rw [if_pos hc] at hR
              subst hR
              have dc : decide (Y < c) = true := decide_eq_true hc
              go_enter Try.func39, Try.ntmps39
              go_wp2_with (go_at_call 44; first | ((with_reducible refine seq_gw' (hck.out _ (hX0.out.alloc _)) ?_); intro g) | ((with_reducible refine seq_gw (hck.out _ (hX0.out.alloc _)) ?_); intro g))
              go_region
              go_wp2_with fail
              refine wp_region_gw (by kernel_rfl) (by kernel_rfl) ?_
              repeat (go_big_quiet_step ((go_at_call 58; with_reducible exact quiet_gw (hsy.out _ (Gn.ext (w := w))))))
              refine wpQuiet_nil ?_
              intro g2
              go_wp2_with fail
              go_returns
              exact ⟨by first | rfl | simp, Gn.ext⟩
            · rw [if_neg hc] at hR
              subst hR
              have dc : decide (Y < c) = false := decide_eq_false hc
              go_enter Try.func39, Try.ntmps39
              go_wp2_with (go_at_call 44; first | ((with_reducible refine seq_gw' (hck.out _ (hX0.out.alloc _)) ?_); intro g) | ((with_reducible refine seq_gw (hck.out _ (hX0.out.alloc _)) ?_); intro g))
              go_region
              go_wp2_with fail
              refine wp_region_gw (by kernel_rfl) (by kernel_rfl) ?_
              repeat (go_big_quiet_step ((go_at_call 58; with_reducible exact quiet_gw (hsy.out _ (Gn.ext (w := w))))))
              refine wpQuiet_nil ?_
              intro g2
              go_wp2_with fail
              go_returns
              exact ⟨by first | rfl | simp, Gn.ext⟩
    · rw [if_neg hk2] at hR
      rw [if_neg hk2] at hY0
      subst hY0
      have k2 : (k == 2) = false := by simp [hk2]
      by_cases hc : Y < c
      · rw [if_pos hc] at hR
        subst hR
        have dc : decide (Y < c) = true := decide_eq_true hc
        clear hkn hks
        replace hk2 := hide hk2
        go_enter Try.func39, Try.ntmps39
        go_wp2_with (go_at_call 44; first | ((with_reducible refine seq_gw' (hck.out _ (hX0.out.alloc _)) ?_); intro g) | ((with_reducible refine seq_gw (hck.out _ (hX0.out.alloc _)) ?_); intro g))
        go_region
        go_wp2_with fail
        refine wp_region_gw (by kernel_rfl) (by kernel_rfl) ?_
        repeat (go_big_quiet_step ((go_at_call 58; with_reducible exact quiet_gw (hsy.out _ (Gn.ext (w := w))))))
        refine wpQuiet_nil ?_
        intro g2
        go_wp2_with fail
        go_returns
        exact ⟨by first | rfl | simp, Gn.ext⟩
      · rw [if_neg hc] at hR
        have dc : decide (Y < c) = false := decide_eq_false hc
        by_cases hk1 : k = 1
        · subst hk1
          cases kb
          · rw [hkn rfl, if_neg (by simp)] at hR
            subst hR
            clear hkn hks hk2 k2
            go_enter Try.func39, Try.ntmps39
            go_wp2_with (go_at_call 44; first | ((with_reducible refine seq_gw' (hck.out _ (hX0.out.alloc _)) ?_); intro g) | ((with_reducible refine seq_gw (hck.out _ (hX0.out.alloc _)) ?_); intro g))
            go_region
            go_wp2_with fail
            refine wp_region_gw (by kernel_rfl) (by kernel_rfl) ?_
            repeat (go_big_quiet_step ((go_at_call 58; with_reducible exact quiet_gw (hsy.out _ (Gn.ext (w := w))))))
            refine wpQuiet_nil ?_
            intro g2
            go_wp2_with fail
            go_returns
            exact ⟨by first | rfl | simp, Gn.ext⟩
          · obtain ⟨q, hq, -⟩ := hks rfl
            rw [hq, if_pos (by simp)] at hR
            subst hR
            clear hkn hks hk2 k2 hq
            go_enter Try.func39, Try.ntmps39
            go_wp2_with (go_at_call 44; first | ((with_reducible refine seq_gw' (hck.out _ (hX0.out.alloc _)) ?_); intro g) | ((with_reducible refine seq_gw (hck.out _ (hX0.out.alloc _)) ?_); intro g))
            go_region
            go_wp2_with fail
            refine wp_region_gw (by kernel_rfl) (by kernel_rfl) ?_
            repeat (go_big_quiet_step ((go_at_call 58; with_reducible exact quiet_gw (hsy.out _ (Gn.ext (w := w))))))
            refine wpQuiet_nil ?_
            intro g2
            go_wp2_with fail
            go_returns
            exact ⟨by first | rfl | simp, Gn.ext⟩
        · rw [if_neg (by intro hh; exact hk1 hh.1)] at hR
          subst hR
          have k1 : (k == 1) = false := by simp [hk1]
          replace hk1 := hide hk1
          replace hk2 := hide hk2
          clear hkn hks
          go_enter Try.func39, Try.ntmps39
          go_wp2_with (go_at_call 44; first | ((with_reducible refine seq_gw' (hck.out _ (hX0.out.alloc _)) ?_); intro g) | ((with_reducible refine seq_gw (hck.out _ (hX0.out.alloc _)) ?_); intro g))
          go_region
          go_wp2_with fail
          refine wp_region_gw (by kernel_rfl) (by kernel_rfl) ?_
          repeat (go_big_quiet_step ((go_at_call 58; with_reducible exact quiet_gw (hsy.out _ (Gn.ext (w := w))))))
          refine wpQuiet_nil ?_
          intro g2
          go_wp2_with fail
          go_returns
          exact ⟨by first | rfl | simp, Gn.ext⟩
  · rw [if_pos (by simpa using h0)] at hR
    rw [hR]
    clear hR
    have e0 : (E != 0) = true := by simp [h0]
    replace h0 := hide h0
    clear hkn hks hY
    go_enter Try.func39, Try.ntmps39
    go_wp2_with (go_at_call 44; first | ((with_reducible refine seq_gw' (hck.out _ (hX0.out.alloc _)) ?_); intro g) | ((with_reducible refine seq_gw (hck.out _ (hX0.out.alloc _)) ?_); intro g))
    go_region
    go_wp2_with fail
    go_returns
    exact ⟨by first | rfl | simp, Gn.ext⟩
end Go.Proofs.Ytkfdkjjocdbolaa
