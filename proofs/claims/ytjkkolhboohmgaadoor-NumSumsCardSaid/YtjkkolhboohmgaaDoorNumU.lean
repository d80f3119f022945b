/-
  Layer 1 (num), 1.2: the sum in two words. Our own work.
-/
import Derived.Test.YtjkkolhboohmgaaDoorNumB
import Derived.Test.YtjkkolhboohmgaaDoorMem
import Derived.Laws.Externs
set_option linter.unusedVariables false
set_option linter.unusedSimpArgs false
namespace Go.Proofs.YtjkkolhboohmgaaDoor
open Go.RowKit
attribute [local go_sem] GW.cell GW.frozen In.eq_true In.le_true In.ne In.ne' In.ne_add In.ne_add' In.lt_add Upto.le_true Upto.le_add Upto.lt_add
theorem add64 (x y c : Int) (hx : 0 ≤ x) (hy : 0 ≤ y) (hc0 : 0 ≤ c) (hc : c ≤ 1) (w : World) :
    (callFunc 14 #[.int .u64 x, .int .u64 y, .int .u64 c]).run Tryd.prog w = .ok (.value (.tuple #[.int .u64 ((x + y + c) % 18446744073709551616), .int .u64 ((x + y + c) / 18446744073709551616)])) w := by
  rw [run_callFunc_extern Tryd.func14 (by kernel_rfl) (by kernel_rfl) (by kernel_rfl) (e := add64Entry) (by kernel_rfl), run_add64 x y c hx hy hc0 hc]
  rfl
theorem wrap_u (n : Int) : IntKind.u64.wrap n = n % 18446744073709551616 := by simp [IntKind.wrap, IntKind.bits, IntKind.signed]
set_option maxHeartbeats 1000000 in
theorem put_c (n lo hi : Int) (bl bh : Nat) (hn : -9223372036854775808 ≤ n ∧ n ≤ 9223372036854775807) (hlo : 0 ≤ lo ∧ lo ≤ 18446744073709551615) (hhi : 0 ≤ hi ∧ hi ≤ 18446744073709551615) (hne : bl ≠ bh) (w : World) (ol : Ob w bl 33 [.int .u64 lo]) (oh : Ob w bh 33 [.int .u64 hi]) :
    Calls Tryd.prog 13 #[.int .i64 n, .pointer (some ⟨bl, 0, none⟩), .pointer (some ⟨bh, 0, none⟩)] w fun e w' => e = .returned (.tuple #[]) ∧
      w' = (w.setCell ⟨bl, 0, none⟩ (.int .u64 ((lo + IntKind.u64.wrap n) % 18446744073709551616))).setCell ⟨bh, 0, none⟩ (.int .u64 ((hi + IntKind.u64.wrap (n / 9223372036854775808) + (lo + IntKind.u64.wrap n) / 18446744073709551616) % 18446744073709551616)) := by
  have c1 := ol.cell 0 rfl
  have c2 := oh.cell 0 rfl
  have f1 := ol.free 0
  have f2 := oh.free 0
  have x0 : 0 ≤ IntKind.u64.wrap n ∧ IntKind.u64.wrap n ≤ 18446744073709551615 := by rw [wrap_u]; omega
  have s0 : 0 ≤ IntKind.u64.wrap (n / 9223372036854775808) ∧ IntKind.u64.wrap (n / 9223372036854775808) ≤ 18446744073709551615 := by rw [wrap_u]; omega
  obtain ⟨hlo1, hlo2⟩ := hlo
  obtain ⟨x1, x2⟩ := x0
  obtain ⟨s1, s2⟩ := s0
  obtain ⟨hhi1, hhi2⟩ := hhi
  obtain ⟨hn1, hn2⟩ := hn
  go_enter Tryd.func13, Tryd.ntmps13
  go_wp2_with (rw [add64 _ _ _ (by omega) (by omega) (by omega) (by omega)]; simp only [Oper.upon_value])
  go_end0
  exact ⟨rfl, rfl⟩
/-- Whole numbers as cells. -/
def nums (l : List Int) : List Value := l.map fun x => .int .i64 x
def isum (l : List Int) : Int := l.foldl (· + ·) 0
theorem isum_nil : isum [] = 0 := rfl
theorem isum_app (l m : List Int) : isum (l ++ m) = isum l + isum m := by
  have key : ∀ (m : List Int) (a : Int), m.foldl (· + ·) a = a + m.foldl (· + ·) 0 := by
    intro m
    induction m with
    | nil => intro a; simp
    | cons x r ih => intro a; rw [List.foldl_cons, List.foldl_cons, ih, ih (0 + x)]; omega
  unfold isum
  rw [List.foldl_append, key]
theorem isum_one (x : Int) : isum [x] = x := by unfold isum; simp
theorem isum_cons (x : Int) (l : List Int) : isum (x :: l) = x + isum l := by
  rw [show x :: l = [x] ++ l from rfl, isum_app, isum_one]
theorem isum_take {l : List Int} {k : Nat} {x : Int} (h : l[k]? = some x) : isum (l.take (k + 1)) = isum (l.take k) + x := by
  rw [List.take_add_one, h, isum_app]; simp [isum_one]
def InL (l : List Int) : Prop := ∀ x ∈ l, -9223372036854775808 ≤ x ∧ x ≤ 9223372036854775807
theorem isum_le {l : List Int} (h : InL l) : -9223372036854775808 * (l.length : Int) ≤ isum l ∧ isum l ≤ 9223372036854775808 * (l.length : Int) := by
  induction l with
  | nil => rw [isum_nil]; simp
  | cons x r ih =>
    have h1 := h x (by simp)
    have h2 := ih fun y hy => h y (by simp [hy])
    rw [isum_cons, List.length_cons]
    omega
theorem put_sum {lo hi S n : Int} (hlo : 0 ≤ lo ∧ lo ≤ 18446744073709551615) (hhi : 0 ≤ hi ∧ hi ≤ 18446744073709551615) (hn : -9223372036854775808 ≤ n ∧ n ≤ 9223372036854775807) (h : lo + 18446744073709551616 * hi = S % 340282366920938463463374607431768211456) :
    (lo + IntKind.u64.wrap n) % 18446744073709551616 + 18446744073709551616 * ((hi + IntKind.u64.wrap (n / 9223372036854775808) + (lo + IntKind.u64.wrap n) / 18446744073709551616) % 18446744073709551616) = (S + n) % 340282366920938463463374607431768211456 := by
  rw [wrap_u, wrap_u]
  by_cases h0 : n < 0
  · have e1 : n % 18446744073709551616 = n + 18446744073709551616 := by omega
    have e2 : n / 9223372036854775808 % 18446744073709551616 = 18446744073709551615 := by omega
    rw [e1, e2]; omega
  · have e1 : n % 18446744073709551616 = n := by omega
    have e2 : n / 9223372036854775808 % 18446744073709551616 = 0 := by omega
    rw [e1, e2]; omega
theorem wrap_i (n : Int) : IntKind.i64.wrap n = (n + 9223372036854775808) % 18446744073709551616 - 9223372036854775808 := by rw [IntKind.wrap_i64]
theorem sum_yes {lo hi S : Int} (hlo : 0 ≤ lo ∧ lo ≤ 18446744073709551615) (hhi : 0 ≤ hi ∧ hi ≤ 18446744073709551615) (h : lo + 18446744073709551616 * hi = S % 340282366920938463463374607431768211456) (hS : -9223372036854775808 ≤ S ∧ S ≤ 9223372036854775807) :
    IntKind.i64.wrap lo = S ∧ hi = IntKind.u64.wrap (S / 9223372036854775808) := by
  rw [wrap_i, wrap_u]
  by_cases h0 : S < 0
  · have e2 : S / 9223372036854775808 % 18446744073709551616 = 18446744073709551615 := by omega
    rw [e2]; omega
  · have e2 : S / 9223372036854775808 % 18446744073709551616 = 0 := by omega
    rw [e2]; omega
theorem sum_no {lo hi S : Int} (hlo : 0 ≤ lo ∧ lo ≤ 18446744073709551615) (hhi : 0 ≤ hi ∧ hi ≤ 18446744073709551615) (h : lo + 18446744073709551616 * hi = S % 340282366920938463463374607431768211456) (hB : -2596148429267413814265248164610048 ≤ S ∧ S ≤ 2596148429267413814265248164610048) (hS : ¬ (-9223372036854775808 ≤ S ∧ S ≤ 9223372036854775807)) :
    hi ≠ IntKind.u64.wrap (IntKind.i64.wrap lo / 9223372036854775808) := by
  rw [wrap_i, wrap_u]
  intro e
  by_cases h0 : lo < 9223372036854775808
  · have e1 : (lo + 9223372036854775808) % 18446744073709551616 - 9223372036854775808 = lo := by omega
    rw [e1] at e
    have e2 : lo / 9223372036854775808 % 18446744073709551616 = 0 := by omega
    omega
  · have e1 : (lo + 9223372036854775808) % 18446744073709551616 - 9223372036854775808 = lo - 18446744073709551616 := by omega
    rw [e1] at e
    have e2 : (lo - 18446744073709551616) / 9223372036854775808 % 18446744073709551616 = 18446744073709551615 := by omega
    omega
end Go.Proofs.YtjkkolhboohmgaaDoor
