/-
  A helper of ours: no claim of its own. Layer 23 (wide): what the code's functions return.
-/
import Derived.Test.YthckegejbcagmaaRows
import Derived.Test.YthckegejbcagmaaWidS
import Derived.Test.YthckegejbcagmaaMem
import Derived.Test.YthckegejbcagmaaBits
import Derived.Test.YthckegejbcagmaaReg2
import Derived.Test.YthckegejbcagmaaReg3
import Derived.Test.YthckegejbcagmaaShelf
import Derived.Laws.Externs
import Derived.Handy
import Derived.BigQuiet
import Derived.Deep.LoopGhost
set_option linter.unusedVariables false
set_option linter.unusedSimpArgs false
namespace Go.Proofs.Ythckegejbcagmaa
open Go.RowKit
attribute [local go_sem] GW.cell GW.frozen In.eq_true In.le_true In.ne In.ne' In.ne_add In.ne_add' In.lt_add Upto.le_true Upto.le_add Upto.lt_add
theorem wadd64 (x y c : Int) (hx : 0 ≤ x) (hy : 0 ≤ y) (hc0 : 0 ≤ c) (hc : c ≤ 1) (w : World) :
    (callFunc 40 #[.int .u64 x, .int .u64 y, .int .u64 c]).run Try.prog w = .ok (.value (.tuple #[.int .u64 ((x + y + c) % 18446744073709551616), .int .u64 ((x + y + c) / 18446744073709551616)])) w := by
  rw [run_callFunc_extern Try.func40 (by kernel_rfl) (by kernel_rfl) (by kernel_rfl) (e := add64Entry) (by kernel_rfl), run_add64 x y c hx hy hc0 hc]
  rfl
theorem wsign_c (n : Int) (w : World) : Calls Try.prog 41 #[.int .i64 n] w fun e w' => e = .returned (.int .i64 (sg n)) ∧ Ext w w' := by
  go_enter Try.func41, Try.ntmps41
  go_wp2
  go_returns
  exact ⟨by unfold sg; first | rfl | simp, Ext.refl _⟩
theorem of_hl {n : Int} (hn : -9223372036854775808 ≤ n ∧ n ≤ 9223372036854775807) : hiW n = sg n ∧ loW n = IntKind.u64.wrap n := by rw [u64_wrap]; unfold hiW loW sg; omega
theorem wof_c (n : Int) (hn : -9223372036854775808 ≤ n ∧ n ≤ 9223372036854775807) (w : World) : Calls Try.prog 22 #[.int .i64 n] w fun e w' => e = .returned (wv n) ∧ Ext w w' := by
  obtain ⟨h1, h2⟩ := of_hl hn
  unfold wv
  rw [h1, h2]
  go_enter Try.func22, Try.ntmps22
  go_wp2_with (go_at_call 41; refine seq_gw (wsign_c _ _) ?_; intro g)
  go_returns
  refine ⟨rfl, ?_⟩
  repeat (first | exact Ext.refl _ | with_reducible assumption | refine Ext.alloc ?_ _ | refine Ext.drew ?_ | refine Ext.drewN ?_ _ | refine ext_gw ?_ _ | refine Ext.setCell ?_ (by first | (simp; done) | (simp [Upto.le_true, Upto.le_add]; done) | (simp; omega)) _)
set_option maxHeartbeats 2000000 in
theorem wadd_c (x y : Int) (hx : InW x) (hy : InW y) (w : World) : Calls Try.prog 11 #[wv x, wv y] w fun e w' => e = .returned (.tuple #[wv (okW (x + y)), .int .i64 (erW (x + y))]) ∧ Ext w w' := by
  have hf := hide (fun h => ad_fits hx hy h)
  have ho := hide (fun h h' => ad_over hx hy h h')
  have hC := adC_in x y
  have b1 := lo_in x
  have b2 := lo_in y
  have hU : IntKind.i64.wrap ((IntKind.u64.wrap (hiW x) + IntKind.u64.wrap (hiW y) + adC x y) % 18446744073709551616) = adH x y := rfl
  have a1 : Hid (∀ w', (callFunc 40 #[.int .u64 (loW x), .int .u64 (loW y), .int .u64 0]).run Try.prog w' = .ok (.value (.tuple #[.int .u64 (adL x y), .int .u64 (adC x y)])) w') := fun w' => wadd64 _ _ _ (by omega) (by omega) (by omega) (by omega) w'
  have a2 : Hid (∀ w', (callFunc 40 #[.int .u64 (IntKind.u64.wrap (hiW x)), .int .u64 (IntKind.u64.wrap (hiW y)), .int .u64 (adC x y)]).run Try.prog w' = .ok (.value (.tuple #[.int .u64 ((IntKind.u64.wrap (hiW x) + IntKind.u64.wrap (hiW y) + adC x y) % 18446744073709551616), .int .u64 ((IntKind.u64.wrap (hiW x) + IntKind.u64.wrap (hiW y) + adC x y) / 18446744073709551616)])) w') := fun w' => wadd64 _ _ _ (by rw [u64_wrap]; omega) (by rw [u64_wrap]; omega) (by omega) (by omega) w'
  generalize adC x y = C at *
  generalize adL x y = L at *
  generalize adH x y = H at *
  unfold wv
  generalize hiW x = xh at *
  generalize hiW y = yh at *
  generalize loW x = xl at *
  generalize loW y = yl at *
  generalize (IntKind.u64.wrap xh + IntKind.u64.wrap yh + C) % 18446744073709551616 = U at *
  generalize (IntKind.u64.wrap xh + IntKind.u64.wrap yh + C) / 18446744073709551616 = V at *
  by_cases h1 : sg xh = sg yh
  · by_cases h2 : sg H = sg xh
    · obtain ⟨i, q1, q2⟩ := hf.out (fun h => h.2 h2)
      rw [okW_in i, erW_in i, ← q1, ← q2]
      replace h1 := hide h1
      replace h2 := hide h2
      clear q1 q2 hf ho i
      have e1 : (sg xh == sg yh) = true := by rw [h1.out]; exact beq_self_eq_true _
      have e2 : (sg H != sg xh) = false := by rw [h2.out]; exact bne_self_eq_false _
      go_enter Try.func11, Try.ntmps11
      go_wp2_with (first | (rw [a1.out]; simp only [Oper.upon_value]) | (rw [a2.out]; simp only [Oper.upon_value]))
      refine wp_region_gw (by kernel_rfl) (by kernel_rfl) ?_
      repeat (go_big_quiet_step ((go_at_call 41; exact quiet_gw (wsign_c _ _))))
      refine wpQuiet_nil ?_
      intro g
      go_wp2_with fail
      go_returns
      refine ⟨by first | rfl | simp, ?_⟩
      repeat (first | exact Ext.refl _ | with_reducible assumption | refine Ext.alloc ?_ _ | refine Ext.drew ?_ | refine Ext.drewN ?_ _ | refine ext_gw ?_ _ | refine Ext.setCell ?_ (by first | (simp; done) | (simp [Upto.le_true, Upto.le_add]; done) | (simp; omega)) _)
    · have i := ho.out h1 h2
      rw [okW_out i, erW_out i, hi_zero, lo_zero]
      replace h1 := hide h1
      have e1 : (sg xh == sg yh) = true := by rw [h1.out]; exact beq_self_eq_true _
      have e2 : (sg H != sg xh) = true := by simp [h2]
      replace h2 := hide h2
      clear hf ho i
      go_enter Try.func11, Try.ntmps11
      go_wp2_with (first | (rw [a1.out]; simp only [Oper.upon_value]) | (rw [a2.out]; simp only [Oper.upon_value]))
      refine wp_region_gw (by kernel_rfl) (by kernel_rfl) ?_
      repeat (go_big_quiet_step ((go_at_call 41; exact quiet_gw (wsign_c _ _))))
      refine wpQuiet_nil ?_
      intro g
      go_wp2_with fail
      go_returns
      refine ⟨by first | rfl | simp, ?_⟩
      repeat (first | exact Ext.refl _ | with_reducible assumption | refine Ext.alloc ?_ _ | refine Ext.drew ?_ | refine Ext.drewN ?_ _ | refine ext_gw ?_ _ | refine Ext.setCell ?_ (by first | (simp; done) | (simp [Upto.le_true, Upto.le_add]; done) | (simp; omega)) _)
  · obtain ⟨i, q1, q2⟩ := hf.out (fun h => h1 h.1)
    rw [okW_in i, erW_in i, ← q1, ← q2]
    have e1 : (sg xh == sg yh) = false := by simp [h1]
    replace h1 := hide h1
    clear q1 q2 hf ho i
    go_enter Try.func11, Try.ntmps11
    go_wp2_with (first | (rw [a1.out]; simp only [Oper.upon_value]) | (rw [a2.out]; simp only [Oper.upon_value]))
    refine wp_region_gw (by kernel_rfl) (by kernel_rfl) ?_
    repeat (go_big_quiet_step ((go_at_call 41; exact quiet_gw (wsign_c _ _))))
    refine wpQuiet_nil ?_
    intro g
    go_wp2_with fail
    go_returns
    refine ⟨by first | rfl | simp, ?_⟩
    repeat (first | exact Ext.refl _ | with_reducible assumption | refine Ext.alloc ?_ _ | refine Ext.drew ?_ | refine Ext.drewN ?_ _ | refine ext_gw ?_ _ | refine Ext.setCell ?_ (by first | (simp; done) | (simp [Upto.le_true, Upto.le_add]; done) | (simp; omega)) _)
theorem not_hl {x : Int} (h : InW x) : hiW (-1 - x) = -1 - hiW x ∧ loW (-1 - x) = 18446744073709551615 - loW x ∧ InW (-1 - x) := by
  unfold InW at *; unfold hiW loW; omega
end Go.Proofs.Ythckegejbcagmaa
