/-
  A helper of ours: no claim of its own. Layer 25 (lean): the document's answers; live.
-/
import Derived.Test.YtnneicdphlidhaaLenB
set_option linter.unusedVariables false
set_option linter.unusedSimpArgs false
namespace Go.Proofs.Ytnneicdphlidhaa
open Go.RowKit Floats
attribute [local go_sem] GW.cell GW.frozen In.eq_true In.le_true In.ne In.ne' In.ne_add In.ne_add' In.lt_add Upto.le_true Upto.le_add Upto.lt_add
theorem tmod_four (v : Int) : ∃ r, v.tmod 4 = r ∧ -4 < r ∧ r < 4 ∧ (r + 4).tmod 4 = v % 4 := by
  have h1 := Int.mul_tdiv_add_tmod v 4
  have h2 := Int.tmod_lt_of_pos v (show (0 : Int) < 4 by decide)
  have h3 : -4 < v.tmod 4 := by
    have := Int.tmod_lt_of_pos (-v) (show (0 : Int) < 4 by decide)
    rw [Int.neg_tmod] at this
    omega
  refine ⟨v.tmod 4, rfl, h3, h2, ?_⟩
  rw [Int.tmod_eq_emod_of_nonneg (by omega)]
  omega
set_option maxHeartbeats 1000000 in
theorem refUnit_c (v : Int) (w : World) : Calls Try.prog 29 #[.int .i64 v] w fun e w' => e = .returned (.tuple #[.int .i64 (tE v), .int .i64 (tN v)]) ∧ Ext w w' := by
  obtain ⟨r, hr, hr1, hr2, he⟩ := tmod_four v
  rcases turn_cases v with ⟨h, a, b⟩ | ⟨h, a, b⟩ | ⟨h, a, b⟩ | ⟨h, a, b⟩
  all_goals
    rw [h] at he
    rw [a, b]
    clear h a b
    go_enter Try.func29, Try.ntmps29
    go_wp2_with fail
    go_returns
    exact ⟨rfl, Ext.refl _⟩
set_option maxHeartbeats 1000000 in
theorem refFar_c (x y : Int) (w : World) : Calls Try.prog 38 #[.int .i64 x, .int .i64 y] w fun e w' => e = .returned (.bool (farL x y)) ∧ Ext w w' := by
  unfold farL
  go_enter Try.func38, Try.ntmps38
  go_wp2_with fail
  all_goals
    go_returns
    exact ⟨by first | rfl | simp [*], Ext.refl _⟩
/-- The document's lean, where it lies. -/
abbrev Ld (w : World) (b : Nat) (x y : Int) : Prop := Ob w b 51 [.int .i64 x, .int .i64 y]
set_option maxHeartbeats 4000000 in
theorem refLput_c (v n : Int) (b : Nat) (x y : Int) (w : World) (h : Ld w b x y) (hN : Near x y) :
    Calls Try.prog 24 #[.pointer (some ⟨b, 0, none⟩), .int .i64 v, .int .i64 n] w fun e w' => e = .returned (.int .i64 (lpE v n x y)) ∧ Ld w' b (lpX v n x y) (lpY v n x y) ∧ Fr [b] w w' := by
  have hu := hide (fun w' => refUnit_c v w')
  have hf := hide (fun x y w' => refFar_c x y w')
  have c0 := h.cell 0 rfl
  have c1 := h.cell 1 rfl
  have f0 := h.free 0
  have f1 := h.free 1
  haveI : In b w := ⟨h.lt⟩
  have ho := hide h
  clear h
  unfold Near at hN
  by_cases hn : okN n
  · obtain ⟨hn1, hn2⟩ := id hn
    obtain ⟨u1, u2, e1, e2, b1, b2, b3, b4, hcs⟩ : ∃ u1 u2, n * tE v = u1 ∧ n * tN v = u2 ∧ -1048576 ≤ u1 ∧ u1 ≤ 1048576 ∧ -1048576 ≤ u2 ∧ u2 ≤ 1048576 ∧ True := by
      obtain ⟨h1, h2, h3, h4⟩ := times_le v n hn
      exact ⟨_, _, rfl, rfl, h1, h2, h3, h4, trivial⟩
    obtain ⟨p1, p2, p3⟩ := lp_ok (v := v) hn x y
    rw [p1, p2, p3, e1, e2]
    unfold adE adX adY
    obtain ⟨t1, ht1⟩ : ∃ t, tE v = t := ⟨_, rfl⟩
    obtain ⟨t2, ht2⟩ : ∃ t, tN v = t := ⟨_, rfl⟩
    rw [ht1, ht2] at hu
    rw [ht1] at e1
    rw [ht2] at e2
    clear p1 p2 p3 hcs ht1 ht2
    have hfv := hide (fun w' => refFar_c (x + u1) (y + u2) w')
    generalize farL (x + u1) (y + u2) = F at *
    cases F
    · simp only [Bool.false_eq_true, if_false]
      go_enter Try.func24, Try.ntmps24
      go_wp2_with (go_at_call 29; (with_reducible refine seq_gw (hu.out _) ?_); intro g)
      refine wp_region_gw (by kernel_rfl) (by kernel_rfl) ?_
      repeat (go_big_quiet_step ((go_at_call 38; with_reducible exact quiet_gw (hfv.out _))))
      refine wpQuiet_nil ?_
      intro g2
      go_wp2_with fail
      go_returns
      exact ⟨rfl, ((ho.out.ext (g.grown.trans g2.grown)).set 0 _).set 1 _, ((Fr.of_ext (g.grown.trans g2.grown)).setCell _ _ (.inl (by simp))).setCell _ _ (.inl (by simp))⟩
    · simp only [if_true]
      go_enter Try.func24, Try.ntmps24
      go_wp2_with (go_at_call 29; (with_reducible refine seq_gw (hu.out _) ?_); intro g)
      refine wp_region_gw (by kernel_rfl) (by kernel_rfl) ?_
      repeat (go_big_quiet_step ((go_at_call 38; with_reducible exact quiet_gw (hfv.out _))))
      refine wpQuiet_nil ?_
      intro g2
      go_wp2_with fail
      go_returns
      exact ⟨rfl, ho.out.ext (g.grown.trans g2.grown), Fr.of_ext (g.grown.trans g2.grown)⟩
  · have e : lpE v n x y = 2 ∧ lpX v n x y = x ∧ lpY v n x y = y := by
      unfold lpE lpX lpY
      rw [if_neg hn, if_neg (fun h => hn h.1), if_neg (fun h => hn h.1)]
      exact ⟨rfl, rfl, rfl⟩
    rw [e.1, e.2.1, e.2.2]
    clear e
    unfold okN at hn
    by_cases h1 : 1048576 < n
    · go_enter Try.func24, Try.ntmps24
      go_wp2_with fail
      go_returns
      exact ⟨rfl, ho.out, Fr.refl _ _⟩
    · have h2 : n < -1048576 := by omega
      go_enter Try.func24, Try.ntmps24
      go_wp2_with fail
      go_returns
      exact ⟨rfl, ho.out, Fr.refl _ _⟩
theorem sp_parts (q : Int) {x y : Int} (h : Near x y) : ∃ t1 t2 m1 m2 m3 m4, tE q = t1 ∧ tN q = t2 ∧ x * t1 = m1 ∧ y * t2 = m2 ∧ x * t2 = m3 ∧ y * t1 = m4 ∧ spE q x y = m1 - m2 ∧ spN q x y = m3 + m4 ∧ (-1125899906842624 ≤ m1 ∧ m1 ≤ 1125899906842624) ∧ (-1125899906842624 ≤ m2 ∧ m2 ≤ 1125899906842624) ∧ (-1125899906842624 ≤ m3 ∧ m3 ≤ 1125899906842624) ∧ (-1125899906842624 ≤ m4 ∧ m4 ≤ 1125899906842624) := by
  obtain ⟨h1, h2, h3, h4⟩ := h
  refine ⟨_, _, _, _, _, _, rfl, rfl, rfl, rfl, rfl, rfl, rfl, rfl, ?_, ?_, ?_, ?_⟩ <;> (rcases turn_cases q with ⟨_, a, b⟩ | ⟨_, a, b⟩ | ⟨_, a, b⟩ | ⟨_, a, b⟩ <;> first | (rw [a]; omega) | (rw [b]; omega))
set_option maxHeartbeats 4000000 in
theorem refLspun_c (q : Int) (b : Nat) (x y : Int) (w : World) (h : Ld w b x y) (hN : Near x y) :
    Calls Try.prog 27 #[.pointer (some ⟨b, 0, none⟩), .int .i64 q] w fun e w' => e = .returned (.agg #[.int .i64 (spE q x y), .int .i64 (spN q x y)]) ∧ Ext w w' := by
  have hu := hide (fun w' => refUnit_c q w')
  have c0 := h.cell 0 rfl
  have c1 := h.cell 1 rfl
  have f0 := h.free 0
  have f1 := h.free 1
  haveI : In b w := ⟨h.lt⟩
  have ho := hide h
  clear h
  obtain ⟨t1, t2, m1, m2, m3, m4, e1, e2, e3, e4, e5, e6, e7, e8, b1, b2, b3, b4⟩ := sp_parts q hN
  rw [e7, e8]
  rw [e1, e2] at hu
  clear e1 e2 e7 e8 hN
  go_enter Try.func27, Try.ntmps27
  go_wp2_with (go_at_call 29; (with_reducible refine seq_gw (hu.out _) ?_); intro g)
  refine wp_region_gw_tail 26 (by kernel_rfl) (by kernel_rfl) ?_
  simp only [List.take_succ_cons, List.take_zero, List.drop_succ_cons, List.drop_zero]
  repeat (go_big_quiet_step (fail))
  refine wpQuiet_nil ?_
  intro g2
  go_wp2_with fail
  go_returns
  exact ⟨rfl, by repeat (first | exact Ext.refl _ | with_reducible assumption | refine Ext.alloc ?_ _ | refine Ext.drew ?_ | refine Ext.drewN ?_ _ | refine ext_gw ?_ _ | refine Ext.setCell ?_ (by first | (simp; done) | (simp [Upto.le_true, Upto.le_add]; done) | (simp; omega)) _)⟩
/-- A lean that was made behind W0. -/
def Lx (W0 w : World) (b : Nat) (x y : Int) : Prop := Ln w b x y ∧ W0.heap.size ≤ b ∧ Ext W0 w
theorem Lx.ln {W0 w : World} {b : Nat} {x y : Int} (h : Lx W0 w b x y) : Ln w b x y := h.1
theorem Lx.e {W0 w : World} {b : Nat} {x y : Int} (h : Lx W0 w b x y) : Ext W0 w := h.2.2
theorem Lx.later {W0 w w' : World} {b : Nat} {x y : Int} (h : Lx W0 w b x y) (k : Ext w w') : Lx W0 w' b x y := ⟨h.1.ext k, h.2.1, h.2.2.trans k⟩
theorem lnewM (w : World) : Calls Try.prog 22 #[] w fun e w' => ∃ b, e = .returned (.pointer (some ⟨b, 0, none⟩)) ∧ Lx w w' b 0 0 := by
  refine (lnew_c w).mono ?_
  rintro e w' ⟨b, rfl, h1, h2, h3⟩
  exact ⟨b, rfl, h1, h2, h3⟩
theorem lputM (v n : Int) (W0 w : World) (b : Nat) (x y : Int) (h : Lx W0 w b x y) : Calls Try.prog 23 #[.pointer (some ⟨b, 0, none⟩), .int .i64 v, .int .i64 n] w fun e w' => e = .returned (.int .i64 (lpE v n x y)) ∧ Lx W0 w' b (lpX v n x y) (lpY v n x y) := by
  refine (lput_c v n b x y w h.1).mono ?_
  rintro e w' ⟨rfl, h1, h2⟩
  exact ⟨rfl, h1, h.2.1, ext_fr h.2.2 h2 (by simp; exact h.2.1)⟩
set_option maxHeartbeats 4000000 in
set_option maxRecDepth 100000 in
theorem leanLive_c (w : World) : Calls Try.prog 30 #[] w fun e w' => e = .returned (.bool true) ∧ Ext w w' := by
  have h0 := hide (lnewM w)
  have h1 : Hid (∀ w' b, Lx w w' b 0 0 → Calls Try.prog 23 #[.pointer (some ⟨b, 0, none⟩), .int .i64 1, .int .i64 2] w' fun e w2 => e = .returned (.int .i64 0) ∧ Lx w w2 b 0 2) := fun w' b h => lputM 1 2 w w' b _ _ h
  have h2 : Hid (∀ w' b, Lx w w' b 0 2 → Calls Try.prog 23 #[.pointer (some ⟨b, 0, none⟩), .int .i64 3, .int .i64 1] w' fun e w2 => e = .returned (.int .i64 0) ∧ Lx w w2 b 0 1) := fun w' b h => lputM 3 1 w w' b _ _ h
  have h3 : Hid (∀ w' b, Lx w w' b 0 1 → Calls Try.prog 23 #[.pointer (some ⟨b, 0, none⟩), .int .i64 0, .int .i64 5] w' fun e w2 => e = .returned (.int .i64 0) ∧ Lx w w2 b 5 1) := fun w' b h => lputM 0 5 w w' b _ _ h
  have h4 : Hid (∀ w' b, Ln w' b 5 1 → Calls Try.prog 25 #[.pointer (some ⟨b, 0, none⟩)] w' fun e w2 => e = .returned (.tuple #[.int .i64 5, .int .i64 1]) ∧ Ext w' w2) := fun w' b h => lparts_c b _ _ w' h
  have h5 : Hid (∀ w' b, Ln w' b 5 1 → Calls Try.prog 26 #[.pointer (some ⟨b, 0, none⟩), .int .i64 1] w' fun e w2 => ∃ c, e = .returned (.pointer (some ⟨c, 0, none⟩)) ∧ Ln w2 c (-1) 5 ∧ w'.heap.size ≤ c ∧ Ext w' w2) := fun w' b h => lspun_c 1 b 5 1 w' h
  have h6 : Hid (∀ w' b, Ln w' b (-1) 5 → Calls Try.prog 25 #[.pointer (some ⟨b, 0, none⟩)] w' fun e w2 => e = .returned (.tuple #[.int .i64 (-1), .int .i64 5]) ∧ Ext w' w2) := fun w' b h => lparts_c b _ _ w' h
  have h7 : Hid (∀ w' b, Lx w w' b 5 1 → Calls Try.prog 23 #[.pointer (some ⟨b, 0, none⟩), .int .i64 0, .int .i64 2097152] w' fun e w2 => e = .returned (.int .i64 2) ∧ Lx w w2 b 5 1) := fun w' b h => lputM 0 2097152 w w' b _ _ h
  go_enter Try.func30, Try.ntmps30
  go_wp2_with (first
    | (go_at_call 22; refine h0.out.mono ?_; rintro ee w1 ⟨b, rfl, hM1⟩; replace hM1 := hide hM1)
    | (go_at_call 23; first
        | ((with_reducible refine (h1.out _ _ hM1.out).mono ?_); rintro ee w2 ⟨rfl, hM2⟩; replace hM2 := hide hM2; clear hM1)
        | ((with_reducible refine (h2.out _ _ hM2.out).mono ?_); rintro ee w3 ⟨rfl, hM3⟩; replace hM3 := hide hM3; clear hM2)
        | ((with_reducible refine (h3.out _ _ hM3.out).mono ?_); rintro ee w4 ⟨rfl, hM4⟩; replace hM4 := hide hM4; clear hM3)
        | ((with_reducible refine (h7.out _ _ hM6.out).mono ?_); rintro ee w8 ⟨rfl, hM8⟩; replace hM8 := hide hM8))
    | (go_at_call 25; first
        | ((with_reducible refine seq_gw (h4.out _ _ hM4.out.ln) ?_); intro g1; have hM5 := hide (hM4.out.later g1.grown); clear hM4)
        | ((with_reducible refine seq_gw (h6.out _ _ hS.out) ?_); intro g2; have hM6 := hide (hM5.out.later (hXs.out.trans g2.grown))))
    | (go_at_call 26; (with_reducible refine (h5.out _ _ hM5.out.ln).mono ?_); rintro ee w5 ⟨c, rfl, hS, -, hXs⟩; replace hS := hide hS; replace hXs := hide hXs))
  go_returns
  exact ⟨by first | rfl | simp, hM8.out.e⟩
end Go.Proofs.Ytnneicdphlidhaa
