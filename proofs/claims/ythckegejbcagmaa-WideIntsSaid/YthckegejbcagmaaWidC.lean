/-
  A helper of ours: no claim of its own. Layer 23 (wide): what the code's functions return.
-/
import Derived.Test.YthckegejbcagmaaWidB
import Derived.Test.YthckegejbcagmaaWidS
import Derived.Test.YthckegejbcagmaaMem
import Derived.Test.YthckegejbcagmaaBits
import Derived.Test.YthckegejbcagmaaReg2
import Derived.Test.YthckegejbcagmaaReg3
import Derived.Test.YthckegejbcagmaaShelf
import Derived.Laws.Externs
import Derived.Handy
import Derived.BigQuiet
import Derived.Deep.LoopGhost
set_option linter.unusedVariables false
set_option linter.unusedSimpArgs false
namespace Go.Proofs.Ythckegejbcagmaa
open Go.RowKit
attribute [local go_sem] GW.cell GW.frozen In.eq_true In.le_true In.ne In.ne' In.ne_add In.ne_add' In.lt_add Upto.le_true Upto.le_add Upto.lt_add
set_option maxHeartbeats 2000000 in
theorem wcompare_c (x y : Int) (w : World) : Calls Try.prog 23 #[wv x, wv y] w fun e w' => e = .returned (.int .i64 (cmW x y)) ∧ Ext w w' := by
  have hl := hide (fun w' => wless_c x y w')
  have he := hide (fun (h : hiW x = hiW y) (l : loW x = loW y) => hl_eq h l)
  by_cases h : x = y
  · subst h
    have : cmW x x = 0 := by unfold cmW; simp
    rw [this]
    unfold wv
    generalize hiW x = xh at *
    generalize loW x = xl at *
    clear he hl this
    go_enter Try.func23, Try.ntmps23
    go_wp2
    go_returns
    refine ⟨by first | rfl | simp, ?_⟩
    repeat (first | exact Ext.refl _ | with_reducible assumption | refine Ext.alloc ?_ _ | refine Ext.drew ?_ | refine Ext.drewN ?_ _ | refine ext_gw ?_ _ | refine Ext.setCell ?_ (by first | (simp; done) | (simp [Upto.le_true, Upto.le_add]; done) | (simp; omega)) _)
  · have hne : ¬ (hiW x = hiW y ∧ loW x = loW y) := fun hq => h (he.out hq.1 hq.2)
    have key : ∀ (c : Int) (b : Bool), Hid (∀ w' : World, Calls Try.prog 47 #[wv x, wv y] w' fun e w'' => e = .returned (.bool b) ∧ Ext w' w'') → c = (if b = true then -1 else 1) →
        Calls Try.prog 23 #[wv x, wv y] w fun e w' => e = .returned (.int .i64 c) ∧ Ext w w' := by
      intro c b hl hc
      subst hc
      clear he h
      unfold wv at *
      generalize hiW x = xh at *
      generalize loW x = xl at *
      generalize hiW y = yh at *
      generalize loW y = yl at *
      by_cases h1 : xh = yh
      · subst h1
        have h2 : ¬ xl = yl := fun q => hne ⟨rfl, q⟩
        clear hne
        cases b
        · go_enter Try.func23, Try.ntmps23
          go_wp2_with (go_at_call 47; (with_reducible refine seq_gw (hl.out _) ?_); intro g)
          go_returns
          refine ⟨by first | rfl | simp, ?_⟩
          repeat (first | exact Ext.refl _ | with_reducible assumption | refine Ext.alloc ?_ _ | refine Ext.drew ?_ | refine Ext.drewN ?_ _ | refine ext_gw ?_ _ | refine Ext.setCell ?_ (by first | (simp; done) | (simp [Upto.le_true, Upto.le_add]; done) | (simp; omega)) _)
        · go_enter Try.func23, Try.ntmps23
          go_wp2_with (go_at_call 47; (with_reducible refine seq_gw (hl.out _) ?_); intro g)
          go_returns
          refine ⟨by first | rfl | simp, ?_⟩
          repeat (first | exact Ext.refl _ | with_reducible assumption | refine Ext.alloc ?_ _ | refine Ext.drew ?_ | refine Ext.drewN ?_ _ | refine ext_gw ?_ _ | refine Ext.setCell ?_ (by first | (simp; done) | (simp [Upto.le_true, Upto.le_add]; done) | (simp; omega)) _)
      · clear hne
        cases b
        · go_enter Try.func23, Try.ntmps23
          go_wp2_with (go_at_call 47; (with_reducible refine seq_gw (hl.out _) ?_); intro g)
          go_returns
          refine ⟨by first | rfl | simp, ?_⟩
          repeat (first | exact Ext.refl _ | with_reducible assumption | refine Ext.alloc ?_ _ | refine Ext.drew ?_ | refine Ext.drewN ?_ _ | refine ext_gw ?_ _ | refine Ext.setCell ?_ (by first | (simp; done) | (simp [Upto.le_true, Upto.le_add]; done) | (simp; omega)) _)
        · go_enter Try.func23, Try.ntmps23
          go_wp2_with (go_at_call 47; (with_reducible refine seq_gw (hl.out _) ?_); intro g)
          go_returns
          refine ⟨by first | rfl | simp, ?_⟩
          repeat (first | exact Ext.refl _ | with_reducible assumption | refine Ext.alloc ?_ _ | refine Ext.drew ?_ | refine Ext.drewN ?_ _ | refine ext_gw ?_ _ | refine Ext.setCell ?_ (by first | (simp; done) | (simp [Upto.le_true, Upto.le_add]; done) | (simp; omega)) _)
    by_cases h2 : x < y
    · rw [show cmW x y = -1 by unfold cmW; rw [if_pos h2]]
      rw [decide_eq_true h2] at hl
      exact key _ true hl rfl
    · rw [show cmW x y = 1 by unfold cmW; rw [if_neg h2, if_neg h]]
      rw [decide_eq_false h2] at hl
      exact key _ false hl rfl
def InI (x : Int) : Prop := -9223372036854775808 ≤ x ∧ x ≤ 9223372036854775807
instance (x : Int) : Decidable (InI x) := by unfold InI; infer_instance
theorem lo_int {x : Int} (h : InI x) : IntKind.i64.wrap (loW x) = x := by rw [i64_wrap]; unfold InI at h; unfold loW; omega
theorem lo_range (x : Int) : -9223372036854775808 ≤ IntKind.i64.wrap (loW x) ∧ IntKind.i64.wrap (loW x) ≤ 9223372036854775807 := by rw [i64_wrap]; omega
theorem lo_not {x : Int} (h : ¬ InI x) : ¬ hiW (IntKind.i64.wrap (loW x)) = hiW x := by rw [i64_wrap]; unfold InI at h; unfold loW hiW; omega
set_option maxHeartbeats 2000000 in
theorem wint_c (x : Int) (w : World) : Calls Try.prog 17 #[wv x] w fun e w' => e = .returned (.tuple #[.int .i64 (if InI x then x else 0), .int .i64 (if InI x then 0 else 10)]) ∧ Ext w w' := by
  by_cases h : InI x
  · rw [if_pos h, if_pos h]
    have hw := lo_int h
    have ho := hide (fun w' => wof_c x h w')
    unfold wv at *
    generalize hiW x = xh at *
    generalize loW x = xl at *
    clear h
    go_enter Try.func17, Try.ntmps17
    go_wp2_with fail
    refine wp_region_gw (by kernel_rfl) (by kernel_rfl) ?_
    repeat (go_big_quiet_step ((go_at_call 22; with_reducible exact quiet_gw (ho.out _))))
    refine wpQuiet_nil ?_
    intro g
    go_wp2_with fail
    go_returns
    refine ⟨by first | rfl | simp, ?_⟩
    repeat (first | exact Ext.refl _ | with_reducible assumption | refine Ext.alloc ?_ _ | refine Ext.drew ?_ | refine Ext.drewN ?_ _ | refine ext_gw ?_ _ | refine Ext.setCell ?_ (by first | (simp; done) | (simp [Upto.le_true, Upto.le_add]; done) | (simp; omega)) _)
  · rw [if_neg h, if_neg h]
    have hw := lo_not h
    have ho := hide (fun w' => wof_c (IntKind.i64.wrap (loW x)) (lo_range x) w')
    unfold wv at *
    generalize hN : IntKind.i64.wrap (loW x) = N at *
    generalize hiW x = xh at *
    generalize loW x = xl at *
    clear h
    go_enter Try.func17, Try.ntmps17
    go_wp2_with fail
    refine wp_region_gw (by kernel_rfl) (by kernel_rfl) ?_
    repeat (go_big_quiet_step ((go_at_call 22; with_reducible exact quiet_gw (ho.out _))))
    refine wpQuiet_nil ?_
    intro g
    go_wp2_with fail
    go_returns
    refine ⟨by first | rfl | simp, ?_⟩
    repeat (first | exact Ext.refl _ | with_reducible assumption | refine Ext.alloc ?_ _ | refine Ext.drew ?_ | refine Ext.drewN ?_ _ | refine ext_gw ?_ _ | refine Ext.setCell ?_ (by first | (simp; done) | (simp [Upto.le_true, Upto.le_add]; done) | (simp; omega)) _)
end Go.Proofs.Ythckegejbcagmaa
