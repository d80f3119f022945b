/-
  A helper of ours: no claim of its own. Layer 25 (lean): what the code's small functions return.
-/
import Derived.Test.YtnneicdphlidhaaRows
import Derived.Test.YtnneicdphlidhaaLenS
import Derived.Test.YtnneicdphlidhaaMem
import Derived.Test.YtnneicdphlidhaaBits
import Derived.Test.YtnneicdphlidhaaFloats
import Derived.Handy
import Derived.BigQuiet
import Derived.Deep.LoopGhost
import Derived.WalkLawsBesides
set_option linter.unusedVariables false
set_option linter.unusedSimpArgs false
namespace Go.Proofs.Ytnneicdphlidhaa
open Go.RowKit Floats
attribute [local go_sem] GW.cell GW.frozen In.eq_true In.le_true In.ne In.ne' In.ne_add In.ne_add' In.lt_add Upto.le_true Upto.le_add Upto.lt_add
theorem and_i64_three (x : Int) : bits .and .i64 x 3 = x % 4 := by
  show IntKind.i64.wrap ((BitVec.ofInt 64 x &&& BitVec.ofInt 64 3).toNat : Int) = _
  rw [BitVec.toNat_and, show (BitVec.ofInt 64 3).toNat = 2 ^ 2 - 1 by decide, Nat.and_two_pow_sub_one_eq_mod, BitVec.toNat_ofInt, IntKind.wrap_i64]
  omega
theorem rep0 : Rep 0 0 := ofInt_rep 0 (by omega)
theorem rep1 : Rep 4607182418800017408 1 := by have := ofInt_rep 1 (by omega); rwa [show floatOfInt .f64 1 = 4607182418800017408 by decide +kernel] at this
theorem repF : Rep 4832362400168542208 1125899906842624 := by have := ofInt_rep 1125899906842624 (by omega); rwa [show floatOfInt .f64 1125899906842624 = 4832362400168542208 by decide +kernel] at this
theorem repG : Rep 14055734437023318016 (-1125899906842624) := by have := ofInt_rep (-1125899906842624) (by omega); rwa [show floatOfInt .f64 (-1125899906842624) = 14055734437023318016 by decide +kernel] at this
theorem unit_le (v : Int) : (tE v).natAbs ≤ 1 ∧ (tN v).natAbs ≤ 1 := by rcases turn_cases v with ⟨_, a, b⟩ | ⟨_, a, b⟩ | ⟨_, a, b⟩ | ⟨_, a, b⟩ <;> rw [a, b] <;> decide
/-- A step further to the left. -/
theorem turn_mul {a b : Nat} (k : Int) (ha : Rep a (tE k)) (hb : Rep b (tN k)) : ∃ re im, cMulBits a b 0 4607182418800017408 = some (re, im) ∧ Rep re (tE (k + 1)) ∧ Rep im (tN (k + 1)) := by
  obtain ⟨h1, h2⟩ := unit_le k
  obtain ⟨re, im, h, r1, r2⟩ := cmul_rep ha hb rep0 rep1 (by omega) (by omega) (by omega) (by omega) (by omega) (by omega)
  obtain ⟨e1, e2⟩ := turn_add k 1
  refine ⟨re, im, h, ?_, ?_⟩
  · rw [e1]; exact r1
  · rw [e2]; exact r2
/-- The bits of the step to the east, so many quarters on. -/
def sb : Nat → Nat × Nat
  | 0 => (4607182418800017408, 0)
  | k + 1 => (cMulBits (sb k).1 (sb k).2 0 4607182418800017408).getD (0, 0)
theorem sb_both : ∀ k : Nat, Rep (sb k).1 (tE k) ∧ Rep (sb k).2 (tN k) ∧ cMulBits (sb k).1 (sb k).2 0 4607182418800017408 = some (sb (k + 1))
  | 0 => by
    obtain ⟨re, im, h, -, -⟩ := turn_mul (0 : Int) (a := 4607182418800017408) (b := 0) rep1 rep0
    refine ⟨rep1, rep0, ?_⟩
    have e : sb 0 = (4607182418800017408, 0) := rfl
    rw [show sb (0 + 1) = (cMulBits (sb 0).1 (sb 0).2 0 4607182418800017408).getD (0, 0) from rfl, e, h]
    rfl
  | k + 1 => by
    obtain ⟨h1, h2, h3⟩ := sb_both k
    obtain ⟨re, im, h, r1, r2⟩ := turn_mul (k : Int) h1 h2
    have e : sb (k + 1) = (re, im) := by rw [h] at h3; exact (Option.some.inj h3).symm
    have q1 : Rep (sb (k + 1)).1 (tE (k + 1 : Nat)) := by rw [e]; exact r1
    have q2 : Rep (sb (k + 1)).2 (tN (k + 1 : Nat)) := by rw [e]; exact r2
    obtain ⟨re', im', h', -, -⟩ := turn_mul ((k + 1 : Nat) : Int) q1 q2
    refine ⟨q1, q2, ?_⟩
    rw [show sb (k + 1 + 1) = (cMulBits (sb (k + 1)).1 (sb (k + 1)).2 0 4607182418800017408).getD (0, 0) from rfl, h']
    rfl
def sbE (v : Int) : Nat := (sb (v % 4).toNat).1
def sbN (v : Int) : Nat := (sb (v % 4).toNat).2
theorem sb_rep (v : Int) : Rep (sbE v) (tE v) ∧ Rep (sbN v) (tN v) := by
  obtain ⟨h1, h2, -⟩ := sb_both (v % 4).toNat
  have e : (((v % 4).toNat : Nat) : Int) = v % 4 := by omega
  have hE : tE v = tE (v % 4) ∧ tN v = tN (v % 4) := by unfold tE tN; rw [show v % 4 % 4 = v % 4 by omega]; exact ⟨rfl, rfl⟩
  rw [e] at h1 h2
  rw [hE.1, hE.2]
  exact ⟨h1, h2⟩
theorem sb_zero : ((4607182418800017408 : Nat), (0 : Nat)) = sb 0 := rfl
attribute [irreducible] sb
set_option maxHeartbeats 2000000 in
theorem turn_c (v : Int) (w : World) : Calls Try.prog 37 #[.int .i64 v] w fun e w' => e = .returned (.complex .f64 (sbE v) (sbN v)) ∧ Ext w w' := by
  have ha := and_i64_three v
  obtain ⟨n, hn, hn4⟩ : ∃ n : Nat, v % 4 = n ∧ n < 4 := ⟨(v % 4).toNat, by omega, by omega⟩
  rw [hn] at ha
  have hE : sbE v = (sb n).1 ∧ sbN v = (sb n).2 := by unfold sbE sbN; rw [hn]; exact ⟨rfl, rfl⟩
  rw [hE.1, hE.2]
  clear hE hn
  go_enter Try.func37, Try.ntmps37
  go_wp2_with fail
  go_loopg [6, 3] n (fun gh i s wr => ∃ (k : Nat), i = .int .i64 k ∧ s = .complex .f64 (sb k).1 (sb k).2 ∧ k + gh = n ∧ Ext w wr)
  case atStart => exact ⟨0, rfl, by rw [← sb_zero], by omega, Ext.refl _⟩
  case round =>
    obtain ⟨k, rfl, rfl, hk, hX⟩ := hrel
    by_cases hlt : k < n
    · have hrun := fun t w => run_complex_mul (P := Try.prog) w t (sb k).1 (sb k).2 0 4607182418800017408 (sb (k + 1)).1 (sb (k + 1)).2 (sb_both k).2.2
      go_wp2_with fail
      go_roundg (n - (k + 1))
      case measure => omega
      case rel => exact ⟨k + 1, by go_num, rfl, by omega, hX⟩
    · have hk' : k = n := by omega
      subst hk'
      go_wp2_with fail
      go_returns
      exact ⟨rfl, hX⟩
theorem turn_times (v n : Int) (hn : okN n) : ∃ p q, cMulBits (sbE v) (sbN v) (floatOfInt .f64 n) 0 = some (p, q) ∧ Rep p (n * tE v) ∧ Rep q (n * tN v) := by
  obtain ⟨ha, hb⟩ := sb_rep v
  obtain ⟨hn1, hn2⟩ := hn
  have hr := ofInt_rep n (by omega)
  have hc := turn_cases v
  generalize tE v = x at *
  generalize tN v = y at *
  have key : (x = 1 ∨ x = 0 ∨ x = -1) ∧ (y = 1 ∨ y = 0 ∨ y = -1) := by omega
  obtain ⟨hx, hy⟩ := key
  have e1 : n * x = x * n - y * 0 := by rw [Int.mul_comm, Int.mul_zero, Int.sub_zero]
  have e2 : n * y = x * 0 + y * n := by rw [Int.mul_comm, Int.mul_zero, Int.zero_add]
  rw [e1, e2]
  have b1 : (x * n).natAbs ≤ 1048576 := by rcases hx with rfl | rfl | rfl <;> omega
  have b2 : (y * n).natAbs ≤ 1048576 := by rcases hy with rfl | rfl | rfl <;> omega
  refine cmul_rep ha hb hr rep0 (by omega) (by omega) ?_ (by omega) (by omega) ?_ <;> (rw [Int.mul_zero]; omega)
theorem times_le (v n : Int) (hn : okN n) : -1048576 ≤ n * tE v ∧ n * tE v ≤ 1048576 ∧ -1048576 ≤ n * tN v ∧ n * tN v ≤ 1048576 := by
  obtain ⟨hn1, hn2⟩ := hn
  rcases turn_cases v with ⟨_, a, b⟩ | ⟨_, a, b⟩ | ⟨_, a, b⟩ | ⟨_, a, b⟩ <;> rw [a, b] <;> omega
/-- Spun. -/
def spE (q x y : Int) : Int := x * tE q - y * tN q
def spN (q x y : Int) : Int := x * tN q + y * tE q
theorem sp_near (q : Int) {x y : Int} (h : Near x y) : Near (spE q x y) (spN q x y) := by
  unfold Near at *
  unfold spE spN
  rcases turn_cases q with ⟨_, a, b⟩ | ⟨_, a, b⟩ | ⟨_, a, b⟩ | ⟨_, a, b⟩ <;> rw [a, b] <;> omega
theorem turn_spun (q : Int) {a b : Nat} {x y : Int} (ha : Rep a x) (hb : Rep b y) (h : Near x y) : ∃ p r, cMulBits a b (sbE q) (sbN q) = some (p, r) ∧ Rep p (spE q x y) ∧ Rep r (spN q x y) := by
  obtain ⟨hc, hd⟩ := sb_rep q
  have hq := turn_cases q
  unfold spE spN
  obtain ⟨h1, h2, h3, h4⟩ := h
  refine cmul_rep ha hb hc hd ?_ ?_ ?_ ?_ ?_ ?_ <;> (rcases hq with ⟨_, e, f⟩ | ⟨_, e, f⟩ | ⟨_, e, f⟩ | ⟨_, e, f⟩ <;> (try rw [e]) <;> (try rw [f]) <;> omega)
theorem isTooFar_c (a : Nat) (x : Int) (ha : Rep a x) (w : World) : Calls Try.prog 45 #[.float .f64 a] w fun e w' => e = .returned (.bool (decide (1125899906842624 < x) || decide (x < -1125899906842624))) ∧ Ext w w' := by
  have o1 := order_rep ha repF
  have o2 := order_rep ha repG
  by_cases h1 : 1125899906842624 < x
  · rw [show compare x 1125899906842624 = .gt from Int.compare_eq_gt.2 h1] at o1
    go_enter Try.func45, Try.ntmps45
    go_wp2_with fail
    go_returns
    exact ⟨by simp [h1], Ext.refl _⟩
  · have e1 : (compare x 1125899906842624 == .gt) = false := by
      rw [beq_eq_false_iff_ne]; intro h; exact h1 (Int.compare_eq_gt.1 h)
    by_cases h2 : x < -1125899906842624
    · rw [show compare x (-1125899906842624) = .lt from Int.compare_eq_lt.2 h2] at o2
      go_enter Try.func45, Try.ntmps45
      go_wp2_with fail
      go_returns
      exact ⟨by simp [h1, h2], Ext.refl _⟩
    · have e2 : (compare x (-1125899906842624) == .lt) = false := by
        rw [beq_eq_false_iff_ne]; intro h; exact h2 (Int.compare_eq_lt.1 h)
      go_enter Try.func45, Try.ntmps45
      go_wp2_with fail
      go_returns
      exact ⟨by simp [h1, h2], Ext.refl _⟩
theorem partsOf_c (a b : Nat) (x y : Int) (ha : Rep a x) (hb : Rep b y) (hx : x.natAbs ≤ 2 ^ 52) (hy : y.natAbs ≤ 2 ^ 52) (w : World) : Calls Try.prog 39 #[.complex .f64 a b] w fun e w' => e = .returned (.tuple #[.int .i64 x, .int .i64 y]) ∧ Ext w w' := by
  have c1 := fun w => run_convert_float_int (P := Try.prog) w 76 3 .f64 .i64 a x (by kernel_rfl) Try.underlying3 (toInt_rep ha hx)
  have c2 := fun w => run_convert_float_int (P := Try.prog) w 76 3 .f64 .i64 b y (by kernel_rfl) Try.underlying3 (toInt_rep hb hy)
  go_enter Try.func39, Try.ntmps39
  go_wp2_with fail
  go_returns
  exact ⟨rfl, Ext.refl _⟩
theorem unit_c (v : Int) (w : World) : Calls Try.prog 28 #[.int .i64 v] w fun e w' => e = .returned (.tuple #[.int .i64 (tE v), .int .i64 (tN v)]) ∧ Ext w w' := by
  obtain ⟨h1, h2⟩ := unit_le v
  obtain ⟨r1, r2⟩ := sb_rep v
  have hp := hide (fun w' => partsOf_c _ _ _ _ r1 r2 (by omega) (by omega) w')
  have ht := hide (fun w' => turn_c v w')
  go_enter Try.func28, Try.ntmps28
  go_wp2_with (first
    | (go_at_call 37; (with_reducible refine seq_gw (ht.out _) ?_); intro g)
    | (go_at_call 39; (with_reducible refine seq_gw' (hp.out _) ?_); intro g2))
  go_returns
  exact ⟨rfl, g2.grown⟩
end Go.Proofs.Ytnneicdphlidhaa
