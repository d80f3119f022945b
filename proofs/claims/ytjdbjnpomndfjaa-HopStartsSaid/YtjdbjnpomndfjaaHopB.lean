/-
  A helper of ours: no claim of its own. Layer 28 (hop): Open, by the code and by the document.
-/
import Derived.Test.YtjdbjnpomndfjaaHopA
import Derived.Deep.LoopGhost
set_option linter.unusedVariables false
set_option linter.unusedSimpArgs false
namespace Go.Proofs.Ytjdbjnpomndfjaa
open Go.RowKit
attribute [local go_sem] GW.cell GW.frozen In.eq_true In.le_true In.ne In.ne' In.ne_add In.ne_add' In.lt_add Upto.le_true Upto.le_add Upto.lt_add
def hopE (s h t : Int) : Int := if hlen s = true ∧ hlen h = true then (if htick t = true then 0 else 13) else 2
def hopV (s h t : Int) : Int := if hlen s = true ∧ hlen h = true ∧ htick t = true then (if t = 1125899906842624 then 1125899906842624 else hbeg h (t - s + 1)) else 0
set_option maxHeartbeats 2000000 in
set_option maxRecDepth 100000 in
theorem hopen_c (s h t : Int) (w : World) : Calls Try.prog 24 #[.int .i64 s, .int .i64 h, .int .i64 t] w fun e w' => e = .returned (.tuple #[.int .i64 (hopV s h t), .int .i64 (hopE s h t)]) ∧ Ext w w' := by
  have h1 := hide (fun w => isLength_c s w)
  have h2 := hide (fun w => isLength_c h w)
  have h3 := hide (fun w => hisTick_c t w)
  cases a : hlen s
  · rw [a] at h1
    have e1 : hopE s h t = 2 := by unfold hopE; rw [a]; simp
    have e2 : hopV s h t = 0 := by unfold hopV; rw [a]; simp
    rw [e1, e2]
    clear a e1 e2
    go_enter Try.func24, Try.ntmps24
    go_wp2_with (go_at_call 58; (with_reducible refine seq_gw (h1.out _) ?_); intro g)
    go_returns
    exact ⟨rfl, g.grown⟩
  rw [a] at h1
  cases b : hlen h
  · rw [b] at h2
    have e1 : hopE s h t = 2 := by unfold hopE; rw [b]; simp
    have e2 : hopV s h t = 0 := by unfold hopV; rw [b]; simp
    rw [e1, e2]
    clear a b e1 e2
    go_enter Try.func24, Try.ntmps24
    go_wp2_with (go_at_call 58; first | ((with_reducible refine seq_gw (h1.out _) ?_); intro g) | ((with_reducible refine seq_gw' (h2.out _) ?_); intro g2) | ((with_reducible refine seq_gw (h2.out _) ?_); intro g2))
    go_returns
    exact ⟨rfl, g2.grown⟩
  rw [b] at h2
  cases c : htick t
  · rw [c] at h3
    have e1 : hopE s h t = 13 := by unfold hopE; rw [a, b, c]; simp
    have e2 : hopV s h t = 0 := by unfold hopV; rw [c]; simp
    rw [e1, e2]
    clear a b c e1 e2
    go_enter Try.func24, Try.ntmps24
    go_wp2_with (first
      | (go_at_call 58; first | ((with_reducible refine seq_gw (h1.out _) ?_); intro g) | ((with_reducible refine seq_gw' (h2.out _) ?_); intro g2) | ((with_reducible refine seq_gw (h2.out _) ?_); intro g2))
      | (go_at_call 59; first | ((with_reducible refine seq_gw' (h3.out _) ?_); intro g3) | ((with_reducible refine seq_gw (h3.out _) ?_); intro g3)))
    go_returns
    exact ⟨rfl, g3.grown⟩
  rw [c] at h3
  obtain ⟨s1, s2⟩ := hlen_iff.1 a
  obtain ⟨t1, t2⟩ := htick_iff.1 c
  have e1 : hopE s h t = 0 := by unfold hopE; rw [a, b, c]; simp
  by_cases ht : t = 1125899906842624
  · have e2 : hopV s h t = 1125899906842624 := by unfold hopV; rw [a, b, c, if_pos (by simp), if_pos ht]
    rw [e1, e2]
    clear a b c e1 e2
    subst ht
    go_enter Try.func24, Try.ntmps24
    go_wp2_with (first
      | (go_at_call 58; first | ((with_reducible refine seq_gw (h1.out _) ?_); intro g) | ((with_reducible refine seq_gw' (h2.out _) ?_); intro g2) | ((with_reducible refine seq_gw (h2.out _) ?_); intro g2))
      | (go_at_call 59; first | ((with_reducible refine seq_gw' (h3.out _) ?_); intro g3) | ((with_reducible refine seq_gw (h3.out _) ?_); intro g3)))
    go_returns
    exact ⟨rfl, g3.grown⟩
  · have e2 : hopV s h t = hbeg h (t - s + 1) := by unfold hopV; rw [a, b, c, if_pos (by simp), if_neg ht]
    rw [e1, e2]
    have h4 := hide (fun w => beginning_c h (t - s + 1) b (by omega) w)
    clear a b c e1 e2
    go_enter Try.func24, Try.ntmps24
    go_wp2_with (first
      | (go_at_call 58; first | ((with_reducible refine seq_gw (h1.out _) ?_); intro g) | ((with_reducible refine seq_gw' (h2.out _) ?_); intro g2) | ((with_reducible refine seq_gw (h2.out _) ?_); intro g2))
      | (go_at_call 59; first | ((with_reducible refine seq_gw' (h3.out _) ?_); intro g3) | ((with_reducible refine seq_gw (h3.out _) ?_); intro g3))
      | (go_at_call 60; first | ((with_reducible refine seq_gw' (h4.out _) ?_); intro g4) | ((with_reducible refine seq_gw (h4.out _) ?_); intro g4)))
    go_returns
    exact ⟨rfl, g4.grown⟩
set_option maxHeartbeats 4000000 in
set_option maxRecDepth 100000 in
theorem hrefOpen_c (s h t : Int) (w : World) : Calls Try.prog 25 #[.int .i64 s, .int .i64 h, .int .i64 t] w fun e w' => e = .returned (.tuple #[.int .i64 (hopV s h t), .int .i64 (hopE s h t)]) ∧ Ext w w' := by
  have h1 := hide (fun w => hrefMay_c s h w)
  have h3 := hide (fun w => hrefTick_c t w)
  cases ab : (hlen s && hlen h)
  · rw [ab] at h1
    have e0 : ¬ (hlen s = true ∧ hlen h = true) := by simpa using ab
    have e1 : hopE s h t = 2 := by unfold hopE; rw [if_neg e0]
    have e2 : hopV s h t = 0 := by unfold hopV; rw [if_neg fun e => e0 ⟨e.1, e.2.1⟩]
    rw [e1, e2]
    clear ab e1 e2 e0
    go_enter Try.func25, Try.ntmps25
    go_wp2_with (go_at_call 61; (with_reducible refine seq_gw (h1.out _) ?_); intro g)
    go_returns
    exact ⟨rfl, g.grown⟩
  rw [ab] at h1
  rw [Bool.and_eq_true] at ab
  obtain ⟨a, b⟩ := ab
  cases c : htick t
  · rw [c] at h3
    have e1 : hopE s h t = 13 := by unfold hopE; rw [a, b, c]; simp
    have e2 : hopV s h t = 0 := by unfold hopV; rw [c]; simp
    rw [e1, e2]
    clear a b c e1 e2
    go_enter Try.func25, Try.ntmps25
    go_wp2_with (first
      | (go_at_call 61; (with_reducible refine seq_gw (h1.out _) ?_); intro g)
      | (go_at_call 49; first | ((with_reducible refine seq_gw' (h3.out _) ?_); intro g3) | ((with_reducible refine seq_gw (h3.out _) ?_); intro g3)))
    go_returns
    exact ⟨rfl, g3.grown⟩
  rw [c] at h3
  obtain ⟨s1, s2⟩ := hlen_iff.1 a
  obtain ⟨k1, k2⟩ := hlen_iff.1 b
  obtain ⟨t1, t2⟩ := htick_iff.1 c
  have e1 : hopE s h t = 0 := by unfold hopE; rw [a, b, c]; simp
  by_cases ht : t = 1125899906842624
  · have e2 : hopV s h t = 1125899906842624 := by unfold hopV; rw [a, b, c, if_pos (by simp), if_pos ht]
    rw [e1, e2]
    clear a b c e1 e2
    subst ht
    go_enter Try.func25, Try.ntmps25
    go_wp2_with (first
      | (go_at_call 61; (with_reducible refine seq_gw (h1.out _) ?_); intro g)
      | (go_at_call 49; first | ((with_reducible refine seq_gw' (h3.out _) ?_); intro g3) | ((with_reducible refine seq_gw (h3.out _) ?_); intro g3)))
    go_returns
    exact ⟨rfl, g3.grown⟩
  · have e2 : hopV s h t = hbeg h (t - s + 1) := by unfold hopV; rw [a, b, c, if_pos (by simp), if_neg ht]
    rw [e1, e2]
    clear a b c e1 e2
    obtain ⟨i1, i2, i3, i4⟩ := hcnt_in (h := h) (x := t - s + 1) k1
    obtain ⟨P, hP⟩ : ∃ P, hcnt h (t - s + 1) * h = P := ⟨_, rfl⟩
    rw [hP] at i2 i3
    unfold hbeg
    rw [hP]
    by_cases hst : t < s
    · have hk := i4 (by omega)
      rw [hk, Int.zero_mul] at hP
      subst hP
      have q1 : (t - s).tdiv h ≤ 0 := by
        have e5 : t - s = -(s - t) := by omega
        rw [e5, Int.neg_tdiv]
        have := Int.tdiv_nonneg (a := s - t) (b := h) (by omega) (by omega)
        omega
      have q2 := tdiv_in (a := t - s) (b := h) (by omega) (by omega)
      obtain ⟨q3, q4⟩ := q2
      have hEp := hide (fun w => hrefEnd_c s 0 (by constructor <;> omega) w)
      have hE : hend s 0 = s := by unfold hend; rw [if_neg (by omega)]; omega
      rw [hE] at hEp
      have hh0 : ¬ h = 0 := by omega
      have hz : (0 : Int) * h = 0 := Int.zero_mul h
      rw [if_pos (by omega)]
      generalize hQ : (t - s).tdiv h = Q at *
      clear hk i1 i2 i3 i4 hE
      by_cases hq : Q < 0
      · go_enter Try.func25, Try.ntmps25
        go_wp2_with (first
        | (go_at_call 61; (with_reducible refine seq_gw (h1.out _) ?_); intro g)
        | (go_at_call 49; first | ((with_reducible refine seq_gw' (h3.out _) ?_); intro g3) | ((with_reducible refine seq_gw (h3.out _) ?_); intro g3)))
        go_loopg [8] 0 (fun gh iv wr => iv = .int .i64 0 ∧ Hid (Ext w wr))
        case atStart => exact ⟨rfl, by first | exact g3.grown | exact Gn.ext⟩
        case round =>
          obtain ⟨rfl, hX⟩ := hrel
          go_wp2_with (go_at_call 62; first | ((with_reducible refine seq_gw' (hEp.out _) ?_); intro g5) | ((with_reducible refine seq_gw (hEp.out _) ?_); intro g5))
          go_returns
          exact ⟨rfl, hX.out.trans g5.grown⟩
      · obtain rfl : Q = 0 := by omega
        go_enter Try.func25, Try.ntmps25
        go_wp2_with (first
        | (go_at_call 61; (with_reducible refine seq_gw (h1.out _) ?_); intro g)
        | (go_at_call 49; first | ((with_reducible refine seq_gw' (h3.out _) ?_); intro g3) | ((with_reducible refine seq_gw (h3.out _) ?_); intro g3)))
        go_loopg [8] 0 (fun gh iv wr => iv = .int .i64 0 ∧ Hid (Ext w wr))
        case atStart => exact ⟨rfl, by first | exact g3.grown | exact Gn.ext⟩
        case round =>
          obtain ⟨rfl, hX⟩ := hrel
          go_wp2_with (go_at_call 62; first | ((with_reducible refine seq_gw' (hEp.out _) ?_); intro g5) | ((with_reducible refine seq_gw (hEp.out _) ?_); intro g5))
          go_returns
          exact ⟨rfl, hX.out.trans g5.grown⟩
    · have hQ : (t - s).tdiv h = (t - s) / h := Int.tdiv_eq_ediv_of_nonneg (by omega)
      have hc : hcnt h (t - s + 1) = (t - s) / h + 1 := by unfold hcnt; rw [if_neg (by omega), show t - s + 1 - 1 = t - s by omega]
      have q0 : 0 ≤ (t - s) / h := Int.ediv_nonneg (by omega) (by omega)
      have q1 : (t - s) / h ≤ t - s := Int.ediv_le_self _ (by omega)
      rw [hc] at hP
      have i5 := i3 (by omega)
      generalize (t - s) / h = Q at *
      obtain ⟨R, hR⟩ : ∃ R, Q * h = R := ⟨_, rfl⟩
      have hRP : R + h = P := by rw [← hR, ← hP, Int.add_mul, Int.one_mul]
      have hR0 : 0 ≤ R := by rw [← hR]; exact Int.mul_nonneg q0 (by omega)
      have hE1 := hide (fun w => hrefEnd_c s R (by constructor <;> omega) w)
      have hE2 := hide (fun w => hrefEnd_c s P (by constructor <;> omega) w)
      have e1 : hend s R = R + s := by unfold hend; rw [if_neg (by omega)]
      have e2 : t < hend s P := by unfold hend; split <;> omega
      rw [e1] at hE1
      generalize hend s P = EP at *
      have hh0 : ¬ h = 0 := by omega
      have hq0 : ¬ Q < 0 := by omega
      clear e1 hc i1 i2 i3 i4
      have hte : (t == 1125899906842624) = false := beq_eq_false_iff_ne.2 ht
      by_cases hF : P < 1125899906842624
      · rw [if_pos hF]
        go_enter Try.func25, Try.ntmps25
        go_wp2_with (first
          | (go_at_call 61; (with_reducible refine seq_gw (h1.out _) ?_); intro g)
          | (go_at_call 49; first | ((with_reducible refine seq_gw' (h3.out _) ?_); intro g3) | ((with_reducible refine seq_gw (h3.out _) ?_); intro g3)))
        go_loopg [8] 1 (fun gh iv wr => ((iv = .int .i64 Q ∧ gh = 1) ∨ (iv = .int .i64 (Q + 1) ∧ gh = 0)) ∧ Hid (Ext w wr))
        case atStart => exact ⟨.inl ⟨rfl, rfl⟩, by first | exact g3.grown | exact Gn.ext⟩
        case round =>
          obtain ⟨⟨rfl, rfl⟩ | ⟨rfl, rfl⟩, hX⟩ := hrel
          · go_wp2_with (go_at_call 62; first | ((with_reducible refine seq_gw' (hE1.out _) ?_); intro g5) | ((with_reducible refine seq_gw (hE1.out _) ?_); intro g5))
            go_roundg 0
            case measure => omega
            case rel => exact ⟨.inr ⟨by go_num, rfl⟩, hX.out.trans g5.grown⟩
          · go_wp2_with (go_at_call 62; first | ((with_reducible refine seq_gw' (hE2.out _) ?_); intro g5) | ((with_reducible refine seq_gw (hE2.out _) ?_); intro g5))
            go_returns
            exact ⟨rfl, hX.out.trans g5.grown⟩
      · rw [if_neg hF]
        go_enter Try.func25, Try.ntmps25
        go_wp2_with (first
          | (go_at_call 61; (with_reducible refine seq_gw (h1.out _) ?_); intro g)
          | (go_at_call 49; first | ((with_reducible refine seq_gw' (h3.out _) ?_); intro g3) | ((with_reducible refine seq_gw (h3.out _) ?_); intro g3)))
        go_loopg [8] 1 (fun gh iv wr => ((iv = .int .i64 Q ∧ gh = 1) ∨ (iv = .int .i64 (Q + 1) ∧ gh = 0)) ∧ Hid (Ext w wr))
        case atStart => exact ⟨.inl ⟨rfl, rfl⟩, by first | exact g3.grown | exact Gn.ext⟩
        case round =>
          obtain ⟨⟨rfl, rfl⟩ | ⟨rfl, rfl⟩, hX⟩ := hrel
          · go_wp2_with (go_at_call 62; first | ((with_reducible refine seq_gw' (hE1.out _) ?_); intro g5) | ((with_reducible refine seq_gw (hE1.out _) ?_); intro g5))
            go_roundg 0
            case measure => omega
            case rel => exact ⟨.inr ⟨by go_num, rfl⟩, hX.out.trans g5.grown⟩
          · go_wp2_with (go_at_call 62; first | ((with_reducible refine seq_gw' (hE2.out _) ?_); intro g5) | ((with_reducible refine seq_gw (hE2.out _) ?_); intro g5))
            go_returns
            exact ⟨rfl, hX.out.trans g5.grown⟩
end Go.Proofs.Ytjdbjnpomndfjaa
