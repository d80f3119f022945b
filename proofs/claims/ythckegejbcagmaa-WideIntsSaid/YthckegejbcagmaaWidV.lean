/-
  A helper of ours: no claim of its own. Layer 23 (wide): what the code's functions return.
-/
import Derived.Test.YthckegejbcagmaaWidU
import Derived.Test.YthckegejbcagmaaWidS
import Derived.Test.YthckegejbcagmaaMem
import Derived.Test.YthckegejbcagmaaBits
import Derived.Test.YthckegejbcagmaaReg2
import Derived.Test.YthckegejbcagmaaReg3
import Derived.Test.YthckegejbcagmaaShelf
import Derived.Laws.Externs
import Derived.Handy
import Derived.BigQuiet
import Derived.Deep.LoopGhost
set_option linter.unusedVariables false
set_option linter.unusedSimpArgs false
namespace Go.Proofs.Ythckegejbcagmaa
open Go.RowKit
attribute [local go_sem] GW.cell GW.frozen In.eq_true In.le_true In.ne In.ne' In.ne_add In.ne_add' In.lt_add Upto.le_true Upto.le_add Upto.lt_add
theorem wrefInt_c (x : Int) (hx : InW x) (w : World) : Calls Try.prog 21 #[wv x] w fun e w' => e = .returned (.tuple #[.int .i64 (if InI x then x else 0), .int .i64 (if InI x then 0 else 10)]) ∧ Ext w w' := by
  have hlo := lo_in x
  have hr := lo_range x
  obtain ⟨N, hN⟩ : ∃ N, N = IntKind.i64.wrap (loW x) := ⟨_, rfl⟩
  have k1 : InI x ↔ (hiW x = 0 ∧ 0 ≤ N) ∨ (hiW x = -1 ∧ N < 0) := by
    rw [hN, i64_wrap]; unfold InI hiW loW; omega
  have k2 : InI x → N = x := fun h => by rw [hN]; exact lo_int h
  rw [← hN] at hr
  unfold wv
  generalize hiW x = xh at *
  generalize loW x = xl at *
  have hN2 : IntKind.i64.wrap xl = N := hN.symm
  have hN3 : RowKit.wrap64 xl = N := by rw [← IntWalk.i64_left]; exact hN2
  clear hN
  by_cases h : InI x
  · rw [if_pos h, if_pos h, ← k2 h]
    rcases k1.1 h with ⟨h1, h2⟩ | ⟨h1, h2⟩
    · clear k1 k2 h hr hlo
      subst h1
      have d : decide (0 ≤ N) = true := decide_eq_true h2
      go_enter Try.func21, Try.ntmps21
      go_wp2_with fail
      all_goals
        go_returns
        refine ⟨by first | rfl | simp [hN2, hN3], ?_⟩
        repeat (first | exact Ext.refl _ | with_reducible assumption | refine Ext.alloc ?_ _ | refine Ext.drew ?_ | refine Ext.drewN ?_ _ | refine ext_gw ?_ _ | refine Ext.setCell ?_ (by first | (simp; done) | (simp [Upto.le_true, Upto.le_add]; done) | (simp; omega)) _)
    · clear k1 k2 h hr hlo
      subst h1
      have d : decide (N < 0) = true := decide_eq_true h2
      go_enter Try.func21, Try.ntmps21
      go_wp2_with fail
      all_goals
        go_returns
        refine ⟨by first | rfl | simp [hN2, hN3], ?_⟩
        repeat (first | exact Ext.refl _ | with_reducible assumption | refine Ext.alloc ?_ _ | refine Ext.drew ?_ | refine Ext.drewN ?_ _ | refine ext_gw ?_ _ | refine Ext.setCell ?_ (by first | (simp; done) | (simp [Upto.le_true, Upto.le_add]; done) | (simp; omega)) _)
  · rw [if_neg h, if_neg h]
    by_cases h1 : xh = 0
    · have h2 : N < 0 := by rcases Int.lt_or_le N 0 with q | q; exact q; exact absurd (k1.2 (.inl ⟨h1, q⟩)) h
      clear k1 k2 h hr hlo
      subst h1
      have d : decide (0 ≤ N) = false := decide_eq_false (by omega)
      go_enter Try.func21, Try.ntmps21
      go_wp2_with fail
      all_goals
        go_returns
        refine ⟨by first | rfl | simp [hN2, hN3], ?_⟩
        repeat (first | exact Ext.refl _ | with_reducible assumption | refine Ext.alloc ?_ _ | refine Ext.drew ?_ | refine Ext.drewN ?_ _ | refine ext_gw ?_ _ | refine Ext.setCell ?_ (by first | (simp; done) | (simp [Upto.le_true, Upto.le_add]; done) | (simp; omega)) _)
    · by_cases h3 : xh = -1
      · have h2 : ¬ N < 0 := fun q => h (k1.2 (.inr ⟨h3, q⟩))
        clear k1 k2 h hr hlo
        subst h3
        have d : decide (N < 0) = false := decide_eq_false h2
        go_enter Try.func21, Try.ntmps21
        go_wp2_with fail
        all_goals
          go_returns
          refine ⟨by first | rfl | simp [hN2, hN3], ?_⟩
          repeat (first | exact Ext.refl _ | with_reducible assumption | refine Ext.alloc ?_ _ | refine Ext.drew ?_ | refine Ext.drewN ?_ _ | refine ext_gw ?_ _ | refine Ext.setCell ?_ (by first | (simp; done) | (simp [Upto.le_true, Upto.le_add]; done) | (simp; omega)) _)
      · clear k1 k2 h hr hlo
        have e1 : (xh == 0) = false := by simp [h1]
        have e2 : (xh == -1) = false := by simp [h3]
        go_enter Try.func21, Try.ntmps21
        go_wp2_with fail
        all_goals
          go_returns
          refine ⟨by first | rfl | simp [hN2, hN3], ?_⟩
          repeat (first | exact Ext.refl _ | with_reducible assumption | refine Ext.alloc ?_ _ | refine Ext.drew ?_ | refine Ext.drewN ?_ _ | refine ext_gw ?_ _ | refine Ext.setCell ?_ (by first | (simp; done) | (simp [Upto.le_true, Upto.le_add]; done) | (simp; omega)) _)
/-! The document's product: bit by bit. -/
theorem mulq_in {a q : Int} (ha : -9223372036854775808 ≤ a ∧ a ≤ 9223372036854775807) (hq : 0 ≤ q ∧ q ≤ 9223372036854775808) : InW (a * q) := by
  have h1 : a.natAbs * q.natAbs ≤ 9223372036854775808 * 9223372036854775808 := Nat.mul_le_mul (by omega) (by omega)
  have h2 := Int.natAbs_mul a q
  unfold InW
  omega
/-- The number's bits from place i on. -/
def topB (m : Nat) (i : Nat) : Nat := m / 2 ^ i
theorem topB_zero (m : Nat) : topB m 0 = m := by unfold topB; simp
theorem topB_le (m i : Nat) : topB m i ≤ m := Nat.div_le_self _ _
theorem topB_end {m : Nat} (h : m < 9223372036854775808) : topB m 63 = 0 := by unfold topB; exact Nat.div_eq_of_lt (by omega)
theorem topB_next (m i : Nat) : topB m i = 2 * topB m (i + 1) + topB m i % 2 := by
  unfold topB
  have : m / 2 ^ (i + 1) = m / 2 ^ i / 2 := by rw [Nat.pow_succ, Nat.div_div_eq_div_mul]
  rw [this]; omega
theorem mul_step {a : Int} (ha : -9223372036854775808 ≤ a ∧ a ≤ 9223372036854775807) {m : Nat} (hm : m < 9223372036854775808) (q : Nat) :
    InW (a * (topB m (q + 1) : Int)) ∧ InW (a * (topB m (q + 1) : Int) + a * (topB m (q + 1) : Int)) ∧ InW (a * (topB m q : Int)) ∧
    (topB m q % 2 = 0 → a * (topB m (q + 1) : Int) + a * (topB m (q + 1) : Int) = a * (topB m q : Int)) ∧ (topB m q % 2 = 1 → a * (topB m (q + 1) : Int) + a * (topB m (q + 1) : Int) + a = a * (topB m q : Int)) := by
  have h1 := topB_le m q
  have h2 := topB_next m q
  have h3 := topB_le m (q + 1)
  have e : a * (topB m (q + 1) : Int) + a * (topB m (q + 1) : Int) = a * (2 * (topB m (q + 1) : Int)) := by rw [Int.two_mul, Int.mul_add]
  refine ⟨mulq_in ha (by omega), by rw [e]; exact mulq_in ha (by omega), mulq_in ha (by omega), fun h => ?_, fun h => ?_⟩
  · rw [e]; congr 1; omega
  · rw [e]
    have : (topB m q : Int) = 2 * (topB m (q + 1) : Int) + 1 := by omega
    rw [this, Int.mul_add, Int.mul_one]
set_option maxHeartbeats 4000000 in
set_option maxRecDepth 100000 in
theorem wrefMul_c (a b : Int) (ha : -9223372036854775808 ≤ a ∧ a ≤ 9223372036854775807) (hb : -9223372036854775808 ≤ b ∧ b ≤ 9223372036854775807) (w : World) : Calls Try.prog 19 #[.int .i64 a, .int .i64 b] w fun e w' => e = .returned (wv (a * b)) ∧ Ext w w' := by
  have hO := hide (fun w' => wrefOf_c a ha w')
  obtain ⟨m, hm⟩ : ∃ m : Nat, (m : Int) = if b < 0 then -1 - b else b := ⟨(if b < 0 then -1 - b else b).toNat, by split <;> omega⟩
  have hmlt : m < 9223372036854775808 := by split at hm <;> omega
  have hst := hide (fun q => mul_step ha hmlt q)
  have h63 := hide (topB_end hmlt)
  have ha2 : InW a := by unfold InW; omega
  have A0 : Hid (∀ o : Obj, Ob ((w.alloc (.cells #[.int .i64 0, .int .u64 0] 24)).alloc o) w.heap.size 24 [.int .i64 0, .int .u64 0]) := fun o => (Ob.new w _ _).alloc o
  have A1 : Hid (∀ o : Obj, Ob ((w.alloc o).alloc (.cells #[.int .i64 0, .int .u64 0] 24)) (w.heap.size + 1) 24 [.int .i64 (hiW (a * (topB m 63 : Int))), .int .u64 (loW (a * (topB m 63 : Int)))]) := fun o => by
    rw [h63.out, Int.ofNat_zero, Int.mul_zero, hi_zero, lo_zero]
    have h := Ob.new (w.alloc o) 24 [.int .i64 0, .int .u64 0]
    rw [World.size_alloc] at h
    exact h
  have hu : IntKind.u64.wrap b = if b < 0 then b + 18446744073709551616 else b := by rw [u64_wrap]; split <;> omega
  by_cases hb0 : b < 0
  · rw [if_pos hb0] at hm hu
    have hu2 : IntKind.u64.wrap (-1 - b) = m := by rw [u64_wrap]; omega
    replace hm := hide hm
    go_enter Try.func19, Try.ntmps19
    go_wp2_with (go_at_call 25; (with_reducible refine seq_gw (hO.out _) ?_); intro g)
    have hz := g.size
    simp only [World.size_alloc] at hz
    go_loopg [8] 63 (fun gh i wr => ∃ (j : Nat), j ≤ 63 ∧ j = gh ∧ i = .int .i64 ((j : Int) - 1) ∧ Ext w wr ∧ Ob wr w.heap.size 24 [.int .i64 0, .int .u64 0] ∧ Ob wr (w.heap.size + 1) 24 [.int .i64 (hiW (a * (topB m j : Int))), .int .u64 (loW (a * (topB m j : Int)))] ∧ Ob wr g.val.heap.size 24 [.int .i64 (hiW a), .int .u64 (loW a)])
    case atStart =>
      exact ⟨63, by omega, rfl, rfl, (((Ext.refl w).alloc _).alloc _).trans (g.grown.alloc _), ((A0.out _).ext g.grown).alloc _, ((A1.out _).ext g.grown).alloc _, Ob.new g.val 24 [.int .i64 (hiW a), .int .u64 (loW a)]⟩
    obtain ⟨j, hj, rfl, rfl, hX, B0, B1, B2⟩ := hrel
    clear A0 A1
    have lt0 := B0.lt
    have lt1 := B1.lt
    have lt2 := B2.lt
    haveI : In w.heap.size wr := ⟨lt0⟩
    haveI : In (w.heap.size + 1) wr := ⟨lt1⟩
    haveI : In g.val.heap.size wr := ⟨lt2⟩
    have y0 := B2.cell 0 rfl
    have y1 := B2.cell 1 rfl
    have f0 := B0.free 0
    have f1 := B0.free 1
    have k0 := B1.free 0
    have k1 := B1.free 1
    have z0 := B0.cell 0 rfl
    have z1 := B0.cell 1 rfl
    have n1 : (g.val.heap.size = w.heap.size + 1) = False := eq_false (by omega)
    have n2 : (w.heap.size + 1 = g.val.heap.size) = False := eq_false (by omega)
    have n3 : (g.val.heap.size = w.heap.size) = False := eq_false (by omega)
    have n4 : (w.heap.size = g.val.heap.size) = False := eq_false (by omega)
    rcases j with _ | q
    · have e1 : a * (topB m 0 : Int) + a = a * (-b) := by rw [topB_zero, hm.out, show (-b : Int) = -1 - b + 1 by omega, Int.mul_add, Int.mul_one]
      have i1 : InW (a * (topB m 0 : Int)) := by rw [topB_zero]; exact mulq_in ha (by omega)
      have i2 : InW (a * (-b)) := mulq_in ha (by omega)
      have i3 : InW (a * b) := mul_hi ha hb
      have c1 := hide (fun w' => wrefAdd_c _ _ i1 ha2 w')
      have c2 := hide (fun w' => wrefNeg_c _ i2 w')
      rw [e1, okW_in i2, erW_in i2] at c1
      rw [show -(a * -b) = a * b by rw [Int.mul_neg, Int.neg_neg], okW_in i3, erW_in i3] at c2
      replace i1 := hide i1
      replace i2 := hide i2
      replace i3 := hide i3
      replace e1 := hide e1
      have x0 := B1.cell 0 rfl
      have x1 := B1.cell 1 rfl
      replace B0 := hide B0
      replace B1 := hide B1
      replace B2 := hide B2
      replace hst := hide hst
      clear hO h63
      go_wp2_with (first | (go_at_call 12; (with_reducible refine seq_gw (c1.out _) ?_); intro g1; have D1 := hide (B1.out.ext g1.grown); have v0 := D1.out.cell 0 rfl; have v1 := D1.out.cell 1 rfl; have l0 := D1.out.free 0; have l1 := D1.out.free 1) | (go_at_call 14; (with_reducible refine seq_gw (c2.out _) ?_); intro g2; have D2 := hide (((D1.out.set 0 (.int .i64 (hiW (a * -b)))).set 1 (.int .u64 (loW (a * -b)))).ext g2.grown); have v2 := D2.out.cell 0 rfl; have v3 := D2.out.cell 1 rfl; have l2 := D2.out.free 0; have l3 := D2.out.free 1))
      first | go_returns | refine bodyPost_ret (by simp [results, Try.results19, go_sem, z0, z1]; try rfl) rfl ?_
      refine ⟨by first | rfl | simp, ?_⟩
      repeat (first | exact Ext.refl _ | with_reducible assumption | refine Ext.alloc ?_ _ | refine Ext.drew ?_ | refine Ext.drewN ?_ _ | refine ext_gw ?_ _ | refine Ext.setCell ?_ (by first | (simp; done) | (simp [Upto.le_true, Upto.le_add]; done) | (simp; omega)) _)
    · have hq : q ≤ 62 := by omega
      have hi : (((q + 1 : Nat) : Int) - 1) = (q : Int) := by omega
      rw [hi]
      have hge : (0 : Int) ≤ (q : Int) := by omega
      obtain ⟨i1, i2, i3, s0, s1⟩ := hst.out q
      have x0 := B1.cell 0 rfl
      have x1 := B1.cell 1 rfl
      have c1 := hide (fun w' => wrefAdd_c _ _ i1 i1 w')
      rw [okW_in i2, erW_in i2] at c1
      obtain ⟨T, hT⟩ : ∃ T, T = topB m q := ⟨_, rfl⟩
      obtain ⟨P0, hP0⟩ : ∃ P, P = a * (topB m (q + 1) : Int) := ⟨_, rfl⟩
      obtain ⟨P2, hP2⟩ : ∃ P, P = a * (topB m q : Int) := ⟨_, rfl⟩
      rw [← hP2] at i3 s0 s1
      rw [← hT] at s0 s1
      rw [← hP0] at i1 i2 s0 s1 x0 x1 c1 B1
      have hTm : T = m / 2 ^ q := hT
      obtain ⟨P1, hP1⟩ : ∃ P, P = P0 + P0 := ⟨_, rfl⟩
      rw [← hP1] at i2 s0 s1 c1
      have c2 := hide (fun w' => wrefAdd_c _ _ i2 ha2 w')
      replace hP0 := hide hP0
      replace hP1 := hide hP1
      replace i1 := hide i1
      replace i2 := hide i2
      replace B0 := hide B0
      replace B1 := hide B1
      replace B2 := hide B2
      clear hO h63 hst
      have hsh : ((m : Int) / 2 ^ q : Int) = (T : Int) := by rw [hTm]; exact (Int.natCast_ediv m (2 ^ q)).symm ▸ (by push_cast; rfl)
      by_cases hbit : T % 2 = 1
      · have e1 := s1 hbit
        rw [e1, okW_in i3, erW_in i3] at c2
        have eb : ((T : Int) % 2 == 1) = true := by rw [beq_iff_eq]; omega
        replace i3 := hide i3
        replace e1 := hide e1
        replace hP2 := hide hP2
        replace hTm := hide hTm
        replace hT := hide hT
        clear s0 s1
        replace hbit := hide hbit
        go_wp2_with (first | (go_at_call 12; (with_reducible refine seq_gw (c2.out _) ?_); intro g2; have D2 := hide (((D1.out.set 0 (.int .i64 (hiW P1))).set 1 (.int .u64 (loW P1))).ext g2.grown); have v2 := D2.out.cell 0 rfl; have v3 := D2.out.cell 1 rfl; have l2 := D2.out.free 0; have l3 := D2.out.free 1) | (go_at_call 12; (with_reducible refine seq_gw (c1.out _) ?_); intro g1; have D1 := hide (B1.out.ext g1.grown); have v0 := D1.out.cell 0 rfl; have v1 := D1.out.cell 1 rfl; have l0 := D1.out.free 0; have l1 := D1.out.free 1))
        go_roundg (q)
        case measure => omega
        case rel =>
          refine ⟨q, by omega, rfl, by go_num, ?_, ?_, ?_, ?_⟩
          · repeat (first | exact Ext.refl _ | with_reducible assumption | refine Ext.alloc ?_ _ | refine Ext.drew ?_ | refine Ext.drewN ?_ _ | refine ext_gw ?_ _ | refine Ext.setCell ?_ (by first | (simp; done) | (simp [Upto.le_true, Upto.le_add]; done) | (simp; omega)) _)
          · exact ((((((B0.out.ext g1.grown).far _ _ (by simp)).far _ _ (by simp)).ext g2.grown).far _ _ (by simp)).far _ _ (by simp))
          · rw [← hP2.out]
            exact (D2.out.set 0 (.int .i64 (hiW P2))).set 1 (.int .u64 (loW P2))
          · exact ((((((B2.out.ext g1.grown).far _ _ (by simp [n1])).far _ _ (by simp [n1])).ext g2.grown).far _ _ (by simp [n1])).far _ _ (by simp [n1]))
      · have e1 := s0 (by omega)
        rw [e1] at c1
        have eb : ((T : Int) % 2 == 1) = false := by rw [beq_eq_false_iff_ne]; omega
        replace i3 := hide i3
        replace e1 := hide e1
        replace hP2 := hide hP2
        replace hTm := hide hTm
        replace hT := hide hT
        clear s0 s1 c2
        replace hbit := hide hbit
        go_wp2_with ((go_at_call 12; (with_reducible refine seq_gw (c1.out _) ?_); intro g1; have D1 := hide (B1.out.ext g1.grown); have v0 := D1.out.cell 0 rfl; have v1 := D1.out.cell 1 rfl; have l0 := D1.out.free 0; have l1 := D1.out.free 1))
        go_roundg (q)
        case measure => omega
        case rel =>
          refine ⟨q, by omega, rfl, by go_num, ?_, ?_, ?_, ?_⟩
          · repeat (first | exact Ext.refl _ | with_reducible assumption | refine Ext.alloc ?_ _ | refine Ext.drew ?_ | refine Ext.drewN ?_ _ | refine ext_gw ?_ _ | refine Ext.setCell ?_ (by first | (simp; done) | (simp [Upto.le_true, Upto.le_add]; done) | (simp; omega)) _)
          · exact ((((B0.out.ext g1.grown).far _ _ (by simp)).far _ _ (by simp)))
          · rw [← hP2.out]
            exact (D1.out.set 0 (.int .i64 (hiW P2))).set 1 (.int .u64 (loW P2))
          · exact ((((B2.out.ext g1.grown).far _ _ (by simp [n1])).far _ _ (by simp [n1])))
  · rw [if_neg hb0] at hm hu
    have hu2 : IntKind.u64.wrap b = m := by rw [u64_wrap]; omega
    clear hu
    replace hm := hide hm
    go_enter Try.func19, Try.ntmps19
    go_wp2_with (go_at_call 25; (with_reducible refine seq_gw (hO.out _) ?_); intro g)
    have hz := g.size
    simp only [World.size_alloc] at hz
    go_loopg [8] 63 (fun gh i wr => ∃ (j : Nat), j ≤ 63 ∧ j = gh ∧ i = .int .i64 ((j : Int) - 1) ∧ Ext w wr ∧ Ob wr w.heap.size 24 [.int .i64 0, .int .u64 0] ∧ Ob wr (w.heap.size + 1) 24 [.int .i64 (hiW (a * (topB m j : Int))), .int .u64 (loW (a * (topB m j : Int)))] ∧ Ob wr g.val.heap.size 24 [.int .i64 (hiW a), .int .u64 (loW a)])
    case atStart =>
      exact ⟨63, by omega, rfl, rfl, (((Ext.refl w).alloc _).alloc _).trans (g.grown.alloc _), ((A0.out _).ext g.grown).alloc _, ((A1.out _).ext g.grown).alloc _, Ob.new g.val 24 [.int .i64 (hiW a), .int .u64 (loW a)]⟩
    obtain ⟨j, hj, rfl, rfl, hX, B0, B1, B2⟩ := hrel
    clear A0 A1
    have lt0 := B0.lt
    have lt1 := B1.lt
    have lt2 := B2.lt
    haveI : In w.heap.size wr := ⟨lt0⟩
    haveI : In (w.heap.size + 1) wr := ⟨lt1⟩
    haveI : In g.val.heap.size wr := ⟨lt2⟩
    have y0 := B2.cell 0 rfl
    have y1 := B2.cell 1 rfl
    have f0 := B0.free 0
    have f1 := B0.free 1
    have k0 := B1.free 0
    have k1 := B1.free 1
    have z0 := B0.cell 0 rfl
    have z1 := B0.cell 1 rfl
    have n1 : (g.val.heap.size = w.heap.size + 1) = False := eq_false (by omega)
    have n2 : (w.heap.size + 1 = g.val.heap.size) = False := eq_false (by omega)
    have n3 : (g.val.heap.size = w.heap.size) = False := eq_false (by omega)
    have n4 : (w.heap.size = g.val.heap.size) = False := eq_false (by omega)
    rcases j with _ | q
    · have e1 : a * (topB m 0 : Int) = a * b := by rw [topB_zero, hm.out]
      rw [e1] at B1
      replace e1 := hide e1
      have x0 := B1.cell 0 rfl
      have x1 := B1.cell 1 rfl
      replace B0 := hide B0
      replace B1 := hide B1
      replace B2 := hide B2
      replace hst := hide hst
      clear hO h63
      go_wp2_with fail
      first | go_returns | refine bodyPost_ret (by simp [results, Try.results19, go_sem, z0, z1]; try rfl) rfl ?_
      refine ⟨by first | rfl | simp, ?_⟩
      repeat (first | exact Ext.refl _ | with_reducible assumption | refine Ext.alloc ?_ _ | refine Ext.drew ?_ | refine Ext.drewN ?_ _ | refine ext_gw ?_ _ | refine Ext.setCell ?_ (by first | (simp; done) | (simp [Upto.le_true, Upto.le_add]; done) | (simp; omega)) _)
    · have hq : q ≤ 62 := by omega
      have hi : (((q + 1 : Nat) : Int) - 1) = (q : Int) := by omega
      rw [hi]
      have hge : (0 : Int) ≤ (q : Int) := by omega
      obtain ⟨i1, i2, i3, s0, s1⟩ := hst.out q
      have x0 := B1.cell 0 rfl
      have x1 := B1.cell 1 rfl
      have c1 := hide (fun w' => wrefAdd_c _ _ i1 i1 w')
      rw [okW_in i2, erW_in i2] at c1
      obtain ⟨T, hT⟩ : ∃ T, T = topB m q := ⟨_, rfl⟩
      obtain ⟨P0, hP0⟩ : ∃ P, P = a * (topB m (q + 1) : Int) := ⟨_, rfl⟩
      obtain ⟨P2, hP2⟩ : ∃ P, P = a * (topB m q : Int) := ⟨_, rfl⟩
      rw [← hP2] at i3 s0 s1
      rw [← hT] at s0 s1
      rw [← hP0] at i1 i2 s0 s1 x0 x1 c1 B1
      have hTm : T = m / 2 ^ q := hT
      obtain ⟨P1, hP1⟩ : ∃ P, P = P0 + P0 := ⟨_, rfl⟩
      rw [← hP1] at i2 s0 s1 c1
      have c2 := hide (fun w' => wrefAdd_c _ _ i2 ha2 w')
      replace hP0 := hide hP0
      replace hP1 := hide hP1
      replace i1 := hide i1
      replace i2 := hide i2
      replace B0 := hide B0
      replace B1 := hide B1
      replace B2 := hide B2
      clear hO h63 hst
      have hsh : ((m : Int) / 2 ^ q : Int) = (T : Int) := by rw [hTm]; exact (Int.natCast_ediv m (2 ^ q)).symm ▸ (by push_cast; rfl)
      by_cases hbit : T % 2 = 1
      · have e1 := s1 hbit
        rw [e1, okW_in i3, erW_in i3] at c2
        have eb : ((T : Int) % 2 == 1) = true := by rw [beq_iff_eq]; omega
        replace i3 := hide i3
        replace e1 := hide e1
        replace hP2 := hide hP2
        replace hTm := hide hTm
        replace hT := hide hT
        clear s0 s1
        replace hbit := hide hbit
        go_wp2_with (first | (go_at_call 12; (with_reducible refine seq_gw (c2.out _) ?_); intro g2; have D2 := hide (((D1.out.set 0 (.int .i64 (hiW P1))).set 1 (.int .u64 (loW P1))).ext g2.grown); have v2 := D2.out.cell 0 rfl; have v3 := D2.out.cell 1 rfl; have l2 := D2.out.free 0; have l3 := D2.out.free 1) | (go_at_call 12; (with_reducible refine seq_gw (c1.out _) ?_); intro g1; have D1 := hide (B1.out.ext g1.grown); have v0 := D1.out.cell 0 rfl; have v1 := D1.out.cell 1 rfl; have l0 := D1.out.free 0; have l1 := D1.out.free 1))
        go_roundg (q)
        case measure => omega
        case rel =>
          refine ⟨q, by omega, rfl, by go_num, ?_, ?_, ?_, ?_⟩
          · repeat (first | exact Ext.refl _ | with_reducible assumption | refine Ext.alloc ?_ _ | refine Ext.drew ?_ | refine Ext.drewN ?_ _ | refine ext_gw ?_ _ | refine Ext.setCell ?_ (by first | (simp; done) | (simp [Upto.le_true, Upto.le_add]; done) | (simp; omega)) _)
          · exact ((((((B0.out.ext g1.grown).far _ _ (by simp)).far _ _ (by simp)).ext g2.grown).far _ _ (by simp)).far _ _ (by simp))
          · rw [← hP2.out]
            exact (D2.out.set 0 (.int .i64 (hiW P2))).set 1 (.int .u64 (loW P2))
          · exact ((((((B2.out.ext g1.grown).far _ _ (by simp [n1])).far _ _ (by simp [n1])).ext g2.grown).far _ _ (by simp [n1])).far _ _ (by simp [n1]))
      · have e1 := s0 (by omega)
        rw [e1] at c1
        have eb : ((T : Int) % 2 == 1) = false := by rw [beq_eq_false_iff_ne]; omega
        replace i3 := hide i3
        replace e1 := hide e1
        replace hP2 := hide hP2
        replace hTm := hide hTm
        replace hT := hide hT
        clear s0 s1 c2
        replace hbit := hide hbit
        go_wp2_with ((go_at_call 12; (with_reducible refine seq_gw (c1.out _) ?_); intro g1; have D1 := hide (B1.out.ext g1.grown); have v0 := D1.out.cell 0 rfl; have v1 := D1.out.cell 1 rfl; have l0 := D1.out.free 0; have l1 := D1.out.free 1))
        go_roundg (q)
        case measure => omega
        case rel =>
          refine ⟨q, by omega, rfl, by go_num, ?_, ?_, ?_, ?_⟩
          · repeat (first | exact Ext.refl _ | with_reducible assumption | refine Ext.alloc ?_ _ | refine Ext.drew ?_ | refine Ext.drewN ?_ _ | refine ext_gw ?_ _ | refine Ext.setCell ?_ (by first | (simp; done) | (simp [Upto.le_true, Upto.le_add]; done) | (simp; omega)) _)
          · exact ((((B0.out.ext g1.grown).far _ _ (by simp)).far _ _ (by simp)))
          · rw [← hP2.out]
            exact (D1.out.set 0 (.int .i64 (hiW P2))).set 1 (.int .u64 (loW P2))
          · exact ((((B2.out.ext g1.grown).far _ _ (by simp [n1])).far _ _ (by simp [n1])))
end Go.Proofs.Ythckegejbcagmaa
