/-
  A helper of ours: no claim of its own. Layer 23 (wide): what the code's functions return.
-/
import Derived.Test.YthckegejbcagmaaWidA
import Derived.Test.YthckegejbcagmaaWidS
import Derived.Test.YthckegejbcagmaaMem
import Derived.Test.YthckegejbcagmaaBits
import Derived.Test.YthckegejbcagmaaReg2
import Derived.Test.YthckegejbcagmaaReg3
import Derived.Test.YthckegejbcagmaaShelf
import Derived.Laws.Externs
import Derived.Handy
import Derived.BigQuiet
import Derived.Deep.LoopGhost
set_option linter.unusedVariables false
set_option linter.unusedSimpArgs false
namespace Go.Proofs.Ythckegejbcagmaa
open Go.RowKit
attribute [local go_sem] GW.cell GW.frozen In.eq_true In.le_true In.ne In.ne' In.ne_add In.ne_add' In.lt_add Upto.le_true Upto.le_add Upto.lt_add
theorem not_i64 {x : Int} (h : -9223372036854775808 ≤ x ∧ x ≤ 9223372036854775807) : bits BinOp.xor IntKind.i64 (if IntKind.i64.signed = true then -1 else 9223372036854775807) x = -1 - x := by
  rw [if_pos (by decide)]
  show IntKind.i64.wrap ((BitVec.ofInt 64 (-1) ^^^ BitVec.ofInt 64 x).toNat : Int) = _
  rw [BitVec.xor_comm]
  exact xor_i64_ones x h
theorem not_u64 {x : Int} (h : 0 ≤ x ∧ x ≤ 18446744073709551615) : bits BinOp.xor IntKind.u64 (if IntKind.u64.signed = true then -1 else IntKind.u64.max) x = 18446744073709551615 - x := by
  rw [if_neg (by decide), show IntKind.u64.max = 18446744073709551615 by decide]
  show IntKind.u64.wrap ((BitVec.ofInt 64 18446744073709551615 ^^^ BitVec.ofInt 64 x).toNat : Int) = _
  rw [BitVec.xor_comm]
  exact xor_u64_ones x h.1 h.2
set_option maxHeartbeats 2000000 in
theorem wneg_c (x : Int) (hx : InW x) (w : World) : Calls Try.prog 13 #[wv x] w fun e w' => e = .returned (.tuple #[wv (okW (-x)), .int .i64 (erW (-x))]) ∧ Ext w w' := by
  obtain ⟨n1, n2, n3⟩ := not_hl hx
  have hA := hide (fun w' => wadd_c (-1 - x) 1 n3 (by unfold InW; omega) w')
  have e1 : -1 - x + 1 = -x := by omega
  rw [e1] at hA
  have hO := hide (fun w' => wof_c 1 (by omega) w')
  generalize okW (-x) = O at *
  generalize erW (-x) = E at *
  have hxh := hi_in hx
  have hxl := lo_in x
  unfold wv at *
  rw [n1, n2] at hA
  clear n1 n2 n3 e1
  go_enter Try.func13, Try.ntmps13
  go_wp2_with fail
  refine wp_region_gw_tail 11 (by kernel_rfl) (by kernel_rfl) ?_
  simp only [List.take_succ_cons, List.take_zero, List.drop_succ_cons, List.drop_zero]
  repeat (go_big_quiet_step ((first | (go_at_call 22; with_reducible exact quiet_gw (hO.out _)) | (go_at_call 11; rw [not_i64 hxh, not_u64 hxl]; with_reducible exact quiet_gw (hA.out _)))))
  refine wpQuiet_nil ?_
  intro g
  go_wp2_with fail
  go_returns
  refine ⟨by first | rfl | simp, ?_⟩
  repeat (first | exact Ext.refl _ | with_reducible assumption | refine Ext.alloc ?_ _ | refine Ext.drew ?_ | refine Ext.drewN ?_ _ | refine ext_gw ?_ _ | refine Ext.setCell ?_ (by first | (simp; done) | (simp [Upto.le_true, Upto.le_add]; done) | (simp; omega)) _)
/-- How the code's upper word of a product comes out. -/
theorem mul_words {a b : Int} (ha : -9223372036854775808 ≤ a ∧ a ≤ 9223372036854775807) (hb : -9223372036854775808 ≤ b ∧ b ≤ 9223372036854775807) (x y : Nat) (hx : (x : Int) = IntKind.u64.wrap a) (hy : (y : Int) = IntKind.u64.wrap b) :
    IntKind.i64.wrap (IntKind.u64.wrap (IntKind.u64.wrap (((x * y / 18446744073709551616 : Nat) : Int) - IntKind.u64.wrap (if a < 0 then b else 0)) - IntKind.u64.wrap (if b < 0 then a else 0))) = hiW (a * b) ∧ ((x * y % 18446744073709551616 : Nat) : Int) = loW (a * b) := by
  have hi := mul_hi ha hb
  have hc : ((x * y : Nat) : Int) = (x : Int) * (y : Int) := Int.natCast_mul x y
  have e1 : ((x * y / 18446744073709551616 : Nat) : Int) = ((x * y : Nat) : Int) / 18446744073709551616 := by omega
  have e2 : ((x * y % 18446744073709551616 : Nat) : Int) = ((x * y : Nat) : Int) % 18446744073709551616 := by omega
  rw [e1, e2, hc, hx, hy]
  unfold InW at hi
  unfold hiW loW
  simp only [i64_wrap, u64_wrap]
  have m1 : a % 18446744073709551616 = if a < 0 then a + 18446744073709551616 else a := by split <;> omega
  have m2 : b % 18446744073709551616 = if b < 0 then b + 18446744073709551616 else b := by split <;> omega
  rw [m1, m2]
  have d1 : (a + 18446744073709551616) * (b + 18446744073709551616) = a * b + 18446744073709551616 * a + 18446744073709551616 * b + 340282366920938463463374607431768211456 := by rw [Int.add_mul, Int.mul_add, Int.mul_add, Int.mul_comm a 18446744073709551616]; omega
  have d2 : (a + 18446744073709551616) * b = a * b + 18446744073709551616 * b := Int.add_mul _ _ _
  have d3 : a * (b + 18446744073709551616) = a * b + 18446744073709551616 * a := by rw [Int.mul_add, Int.mul_comm a 18446744073709551616]
  have key : ∀ p A B X : Int, -170141183460469231731687303715884105728 ≤ p ∧ p < 170141183460469231731687303715884105728 → ∀ k : Int, X = p + 18446744073709551616 * A + 18446744073709551616 * B + 340282366920938463463374607431768211456 * k →
      (((X / 18446744073709551616 - B % 18446744073709551616) % 18446744073709551616 - A % 18446744073709551616) % 18446744073709551616 + 9223372036854775808) % 18446744073709551616 - 9223372036854775808 = p / 18446744073709551616 ∧ X % 18446744073709551616 = p % 18446744073709551616 := by
    intro p A B X hp k hX
    subst hX
    constructor <;> omega
  clear hc e1 e2 hx hy m1 m2
  by_cases ha0 : a < 0
  · by_cases hb0 : b < 0
    · rw [if_pos ha0, if_pos hb0, if_pos ha0, if_pos hb0]
      exact key (a * b) a b _ hi 1 (by rw [d1]; omega)
    · rw [if_pos ha0, if_neg hb0, if_pos ha0, if_neg hb0]
      exact key (a * b) 0 b _ hi 0 (by rw [d2]; omega)
  · by_cases hb0 : b < 0
    · rw [if_neg ha0, if_pos hb0, if_neg ha0, if_pos hb0]
      exact key (a * b) a 0 _ hi 0 (by rw [d3]; omega)
    · rw [if_neg ha0, if_neg hb0, if_neg ha0, if_neg hb0]
      exact key (a * b) 0 0 _ hi 0 (by omega)
theorem and_sg {a b : Int} (ha : -9223372036854775808 ≤ a ∧ a ≤ 9223372036854775807) (hb : -9223372036854775808 ≤ b ∧ b ≤ 9223372036854775807) : bits .and .i64 (sg a) b = if a < 0 then b else 0 := by
  by_cases h : a < 0
  · rw [sg_neg h ha.1, if_pos h]
    show IntKind.i64.wrap ((BitVec.ofInt 64 (-1) &&& BitVec.ofInt 64 b).toNat : Int) = _
    rw [show BitVec.ofInt 64 (-1) = BitVec.allOnes 64 by decide, BitVec.allOnes_and]
    exact wrap_ofInt b hb
  · rw [sg_pos (by omega) ha.2, if_neg h]
    show IntKind.i64.wrap ((BitVec.ofInt 64 0 &&& BitVec.ofInt 64 b).toNat : Int) = _
    rw [show BitVec.ofInt 64 0 = 0#64 by decide, BitVec.zero_and]
    decide
set_option maxHeartbeats 2000000 in
theorem wmul_c (a b : Int) (ha : -9223372036854775808 ≤ a ∧ a ≤ 9223372036854775807) (hb : -9223372036854775808 ≤ b ∧ b ≤ 9223372036854775807) (w : World) : Calls Try.prog 16 #[.int .i64 a, .int .i64 b] w fun e w' => e = .returned (wv (a * b)) ∧ Ext w w' := by
  obtain ⟨x, hx⟩ : ∃ x : Nat, (x : Int) = IntKind.u64.wrap a := ⟨(IntKind.u64.wrap a).toNat, by rw [u64_wrap]; omega⟩
  obtain ⟨y, hy⟩ : ∃ y : Nat, (y : Int) = IntKind.u64.wrap b := ⟨(IntKind.u64.wrap b).toNat, by rw [u64_wrap]; omega⟩
  obtain ⟨q1, q2⟩ := mul_words ha hb x y hx hy
  unfold wv
  rw [← q1, ← q2]
  have n1 := and_sg ha hb
  have n2 := and_sg hb ha
  have hm := hide (fun w' => Try.bits_Mul64 x y (by rw [u64_wrap] at hx; omega) (by rw [u64_wrap] at hy; omega) w')
  rw [hx, hy] at hm
  generalize ((x * y / 18446744073709551616 : Nat) : Int) = P at *
  generalize ((x * y % 18446744073709551616 : Nat) : Int) = L at *
  rw [← n1, ← n2]
  clear hx hy q1 q2 n1 n2 ha hb
  go_enter Try.func16, Try.ntmps16
  go_wp2_with (first | (go_at_call 41; first | ((with_reducible refine seq_gw' (wsign_c _ _) ?_); intro g) | ((with_reducible refine seq_gw (wsign_c _ _) ?_); intro g)) | (go_at_call 46; refine (hm.out _).mono ?_; rintro e w' ⟨rfl, rfl⟩))
  go_returns
  refine ⟨by simp [IntWalk.i64_left], ?_⟩
  repeat (first | exact Ext.refl _ | with_reducible assumption | refine Ext.alloc ?_ _ | refine Ext.drew ?_ | refine Ext.drewN ?_ _ | refine ext_gw ?_ _ | refine Ext.setCell ?_ (by first | (simp; done) | (simp [Upto.le_true, Upto.le_add]; done) | (simp; omega)) _)
/-- How two wide numbers stand. -/
def cmW (x y : Int) : Int := if x < y then -1 else if x = y then 0 else 1
set_option maxHeartbeats 2000000 in
theorem wless_c (x y : Int) (w : World) : Calls Try.prog 47 #[wv x, wv y] w fun e w' => e = .returned (.bool (decide (x < y))) ∧ Ext w w' := by
  have b1 := lo_in x
  have b2 := lo_in y
  have k : decide (x < y) = if hiW x = hiW y then decide (loW x < loW y) else decide (hiW x < hiW y) := by
    have h1 := mk_hl x
    have h2 := mk_hl y
    unfold mkW at h1 h2
    split
    · rw [decide_eq_decide]; omega
    · rw [decide_eq_decide]; omega
  rw [k]
  unfold wv
  generalize hiW x = xh at *
  generalize hiW y = yh at *
  generalize loW x = xl at *
  generalize loW y = yl at *
  clear k b1 b2
  by_cases h : xh = yh
  · subst h
    go_enter Try.func47, Try.ntmps47
    go_wp2
    go_returns
    refine ⟨by first | rfl | simp, ?_⟩
    repeat (first | exact Ext.refl _ | with_reducible assumption | refine Ext.alloc ?_ _ | refine Ext.drew ?_ | refine Ext.drewN ?_ _ | refine ext_gw ?_ _ | refine Ext.setCell ?_ (by first | (simp; done) | (simp [Upto.le_true, Upto.le_add]; done) | (simp; omega)) _)
  · have e : (xh != yh) = true := by simp [h]
    rw [if_neg h]
    clear h
    go_enter Try.func47, Try.ntmps47
    go_wp2
    go_returns
    refine ⟨by first | rfl | simp, ?_⟩
    repeat (first | exact Ext.refl _ | with_reducible assumption | refine Ext.alloc ?_ _ | refine Ext.drew ?_ | refine Ext.drewN ?_ _ | refine ext_gw ?_ _ | refine Ext.setCell ?_ (by first | (simp; done) | (simp [Upto.le_true, Upto.le_add]; done) | (simp; omega)) _)
end Go.Proofs.Ythckegejbcagmaa
