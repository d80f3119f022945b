/-
  A helper of ours: no claim of its own. Layer 10 (edge): the other sign, what is ahead of a place, what is from one on, by the code.
-/
import Derived.Test.YtoghgjgaolinaaaRows
import Derived.Test.YtoghgjgaolinaaaGw
import Derived.Test.YtoghgjgaolinaaaFloats
import Derived.Handy
import Derived.Test.YtoghgjgaolinaaaEdgN
import Derived.Test.YtoghgjgaolinaaaDrValA
import Derived.Test.YtoghgjgaolinaaaStepU
import Derived.Test.YtoghgjgaolinaaaStepE
set_option linter.unusedVariables false
set_option linter.unusedSimpArgs false
namespace Go.Proofs.Ytoghgjgaolinaaa
open Go.RowKit
attribute [local go_sem] GW.cell GW.frozen In.eq_true In.le_true In.ne In.ne' In.ne_add In.ne_add' In.lt_add Upto.le_true Upto.le_add Upto.lt_add


def isTickB (t : Int) : Bool := decide (0 ≤ t) && decide (t ≤ 1125899906842624)
def smayB (a b : Int) : Bool := isTickB a && isTickB b && decide (a < b)
/-- A number, if there is one. -/
def okF (ok : Bool) (a : Int) : Int := if ok then a else 0
def mkE (a b : Int) : Int := if isTickB a && isTickB b then (if a < b then 0 else 14) else 13
def hasB (a b t : Int) : Bool := smayB a b && decide (a ≤ t) && decide (t < b)

theorem mayB_lt {a b : Int} (h : smayB a b = true) : a < b ∧ 0 ≤ a ∧ a ≤ 1125899906842624 ∧ 0 ≤ b ∧ b ≤ 1125899906842624 := by
  simp [smayB, isTickB] at h; omega
theorem mayB_mk {a b : Int} (h : a < b ∧ 0 ≤ a ∧ a ≤ 1125899906842624 ∧ 0 ≤ b ∧ b ≤ 1125899906842624) : smayB a b = true := by
  simp [smayB, isTickB]; omega

theorem isTick_c (t : Int) (w : World) : Calls Try.prog 168 #[.int .i64 t] w fun e w' => e = .returned (.bool (isTickB t)) ∧ w = w' := by
  by_cases h0 : 0 ≤ t <;> by_cases h1 : t ≤ 1125899906842624
  all_goals
    go_enter Try.func168, Try.ntmps168
    go_wp2_with fail
    all_goals
      go_returns
      refine ⟨by first | rfl | (simp [isTickB, h0, h1]; done) | (simp [isTickB, h0, h1]; omega), ?_⟩
      exact rfl


theorem smay_c (a b : Int) (w : World) : Calls Try.prog 154 #[.agg #[.int .i64 (a), .int .i64 (b)]] w fun e w' => e = .returned (.bool (smayB a b)) ∧ Ext w w' := by
  cases h0 : isTickB a <;> cases h1 : isTickB b <;> by_cases h2 : a < b
  all_goals
    go_enter Try.func154, Try.ntmps154
    go_wp2_with (go_at_call 168; refine (isTick_c _ _).mono ?_; rintro e w' ⟨rfl, rfl⟩)
    all_goals
      go_returns
      refine ⟨by first | rfl | (simp [smayB, h0, h1, h2]; done) | (simp [smayB, h0, h1, h2]; omega), ?_⟩
      repeat (first | exact Ext.refl _ | with_reducible assumption | refine Ext.alloc ?_ _ | refine Ext.drew ?_ | refine Ext.drewN ?_ _ | refine ext_gw ?_ _ | refine Ext.setCell ?_ (by first | (simp; done) | (simp [Upto.le_true, Upto.le_add]; done) | (simp; omega)) _)







theorem unless_c (a b : Int) (w : World) : Calls Try.prog 155 #[.int .i64 a, .int .i64 b] w fun e w' => e = .returned (.tuple #[.agg #[.int .i64 (okF (decide (a < b)) (a)), .int .i64 (okF (decide (a < b)) (b))], .bool (decide (a < b))]) ∧ Ext w w' := by
  by_cases h : a < b
  all_goals
    go_enter Try.func155, Try.ntmps155
    go_wp2_with fail
    all_goals
      go_returns
      refine ⟨by first | rfl | (simp [okF, h]; done) | (simp [okF, h]; omega), ?_⟩
      repeat (first | exact Ext.refl _ | with_reducible assumption | refine Ext.alloc ?_ _ | refine Ext.drew ?_ | refine Ext.drewN ?_ _ | refine ext_gw ?_ _ | refine Ext.setCell ?_ (by first | (simp; done) | (simp [Upto.le_true, Upto.le_add]; done) | (simp; omega)) _)

def meetB (a b c d : Int) : Bool := smayB a b && smayB c d && decide (max a c < min b d)
def aheadB (a b t : Int) : Bool := smayB a b && decide (a < t)
def restB (a b t : Int) : Bool := smayB a b && decide (t < b)


theorem ahead_c (a b t : Int) (w : World) : Calls Try.prog 119 #[.agg #[.int .i64 (a), .int .i64 (b)], .int .i64 t] w fun e w' => e = .returned (.tuple #[.agg #[.int .i64 (okF (aheadB a b t) (a)), .int .i64 (okF (aheadB a b t) (min b t))], .bool (aheadB a b t)]) ∧ Ext w w' := by
  cases h0 : smayB a b
  · go_enter Try.func119, Try.ntmps119
    go_wp2_with (first | (go_at_call 154; (first | refine seq_gw' (smay_c _ _ _) ?_ | refine seq_gw (smay_c _ _ _) ?_); intro g) | (go_at_call 155; (first | refine seq_gw' (unless_c _ _ _) ?_ | refine seq_gw (unless_c _ _ _) ?_); intro g))
    all_goals
      go_returns
      refine ⟨by first | rfl | (simp [aheadB, okF, *]; done) | (simp [aheadB, okF, *]; omega), ?_⟩
      repeat (first | exact Ext.refl _ | with_reducible assumption | refine Ext.alloc ?_ _ | refine Ext.drew ?_ | refine Ext.drewN ?_ _ | refine ext_gw ?_ _ | refine Ext.setCell ?_ (by first | (simp; done) | (simp [Upto.le_true, Upto.le_add]; done) | (simp; omega)) _)
  obtain ⟨l1, l2, l3, l4, l5⟩ := mayB_lt h0
  by_cases h1 : a < t
  · go_enter Try.func119, Try.ntmps119
    go_wp2_with (first | (go_at_call 154; (first | refine seq_gw' (smay_c _ _ _) ?_ | refine seq_gw (smay_c _ _ _) ?_); intro g) | (go_at_call 155; (first | refine seq_gw' (unless_c _ _ _) ?_ | refine seq_gw (unless_c _ _ _) ?_); intro g))
    all_goals
      go_returns
      refine ⟨by first | rfl | (simp [aheadB, okF, *]; done) | (simp [aheadB, okF, *]; omega), ?_⟩
      repeat (first | exact Ext.refl _ | with_reducible assumption | refine Ext.alloc ?_ _ | refine Ext.drew ?_ | refine Ext.drewN ?_ _ | refine ext_gw ?_ _ | refine Ext.setCell ?_ (by first | (simp; done) | (simp [Upto.le_true, Upto.le_add]; done) | (simp; omega)) _)
  go_enter Try.func119, Try.ntmps119
  go_wp2_with (first | (go_at_call 154; (first | refine seq_gw' (smay_c _ _ _) ?_ | refine seq_gw (smay_c _ _ _) ?_); intro g) | (go_at_call 155; (first | refine seq_gw' (unless_c _ _ _) ?_ | refine seq_gw (unless_c _ _ _) ?_); intro g))
  all_goals
    go_returns
    refine ⟨by first | rfl | (simp [aheadB, okF, *]; done) | (simp [aheadB, okF, *]; omega), ?_⟩
    repeat (first | exact Ext.refl _ | with_reducible assumption | refine Ext.alloc ?_ _ | refine Ext.drew ?_ | refine Ext.drewN ?_ _ | refine ext_gw ?_ _ | refine Ext.setCell ?_ (by first | (simp; done) | (simp [Upto.le_true, Upto.le_add]; done) | (simp; omega)) _)




end Go.Proofs.Ytoghgjgaolinaaa
set_option linter.unusedVariables false
set_option linter.unusedSimpArgs false
namespace Go.Proofs.Ytoghgjgaolinaaa
open Go.RowKit
attribute [local go_sem] GW.cell GW.frozen In.eq_true In.le_true In.ne In.ne' In.ne_add In.ne_add' In.lt_add Upto.le_true Upto.le_add Upto.lt_add
theorem jmps_le (l : List Ed) (r : List Vl) : (jmps l r).length ≤ l.length := by unfold jmps; rw [List.length_map]; exact List.length_filter_le _ _
theorem mayE_len {l : List Ed} (h : mayE l = true) : l.length ≤ 4096 := (mayE_iff.1 h).1
theorem mayE_jl {l : List Ed} (h : mayE l = true) (r : List Vl) : (jmps l r).length ≤ 1024 := by
  obtain ⟨-, h2, h3⟩ := mayE_iff.1 h
  obtain ⟨-, k2⟩ := rowsL_ok h2.1
  by_cases hr : r ∈ rowsL l
  · have := h3 (r, jmps l r) (by rw [grp_eq h2]; exact List.mem_map.2 ⟨r, hr, rfl⟩)
    exact mayJ_len this
  · have : jmps l r = [] := by
      apply List.eq_nil_iff_forall_not_mem.2
      intro j hj
      exact hr ((k2 r).2 ⟨_, jmps_mem.1 hj, rfl⟩)
    rw [this]; simp
theorem lit2 (u : Value) (r : List Vl) (j k : Jp) (w : World) (h : Rw w [] u r) : Ew (w.alloc (.cells #[u, .int .i64 j.1, .int .i64 j.2, u, .int .i64 k.1, .int .i64 k.2] 36)) [] (.slice (some ⟨w.heap.size, 0, none⟩) 2 2) [(u, r, j), (u, r, k)] := by
  refine ⟨Sl.own (World.ownsRow_lit (base := w.heap.size) (e := 36) (size := 3) w #[u, .int .i64 j.1, .int .i64 j.2, u, .int .i64 k.1, .int .i64 k.2] 2 (Nat.le_refl _) (by decide) rfl) (by simp), fun p hp => ?_⟩
  simp only [List.mem_cons, List.not_mem_nil, or_false] at hp
  rcases hp with rfl | rfl <;> exact Sl.ext h ((Ext.refl w).alloc _)
/-- A row once, from one tick to another. -/
def ofE (r : List Vl) (f t : Int) : Int := if mayR r then (if smayB f t then neE [(r, (f, 1)), (r, (t, -1))] else 14) else 2
def ofR (r : List Vl) (f t : Int) : List Ed := if ofE r f t = 0 then neR [(r, (f, 1)), (r, (t, -1))] else []
theorem neR_bad {l : List Ed} (h : neE l ≠ 0) : neR l = [] := by unfold neR; rw [if_neg h]
/-- A sum. -/
def adE (a b : List Ed) : Int := if mayE a && mayE b then neE (a ++ b) else 2
def adR (a b : List Ed) : List Ed := if adE a b = 0 then neR (a ++ b) else []
end Go.Proofs.Ytoghgjgaolinaaa
set_option linter.unusedVariables false
set_option linter.unusedSimpArgs false
namespace Go.Proofs.Ytoghgjgaolinaaa
open Go.RowKit
attribute [local go_sem] GW.cell GW.frozen In.eq_true In.le_true In.ne In.ne' In.ne_add In.ne_add' In.lt_add Upto.le_true Upto.le_add Upto.lt_add Oper.semAt_some wide_depth wide_fn
def ngOp (f : List Jp) : Int × List Jp := (ngE f, ngR f)
theorem ngOp_len (f : List Jp) : (ngOp f).2.length ≤ 1024 := by
  unfold ngOp ngR
  simp only
  split
  · rename_i h; unfold ngL; rw [List.length_map]; exact mayJ_len h
  · simp
end Go.Proofs.Ytoghgjgaolinaaa
set_option linter.unusedVariables false
set_option linter.unusedSimpArgs false
namespace Go.Proofs.Ytoghgjgaolinaaa
open Go.RowKit
attribute [local go_sem] GW.cell GW.frozen In.eq_true In.le_true In.ne In.ne' In.ne_add In.ne_add' In.lt_add Upto.le_true Upto.le_add Upto.lt_add Oper.semAt_some wide_depth wide_fn
def ahOp (t : Int) (f : List Jp) : Int × List Jp := (ahE f t, ahR f t)
theorem ahOp_len (t : Int) (f : List Jp) : (ahOp t f).2.length ≤ 1024 := by
  unfold ahOp ahR
  simp only
  split
  · rename_i h
    exact mayJ_len (ahE_zero.1 h).2
  · simp
end Go.Proofs.Ytoghgjgaolinaaa
set_option linter.unusedVariables false
set_option linter.unusedSimpArgs false
namespace Go.Proofs.Ytoghgjgaolinaaa
open Go.RowKit
attribute [local go_sem] GW.cell GW.frozen In.eq_true In.le_true In.ne In.ne' In.ne_add In.ne_add' In.lt_add Upto.le_true Upto.le_add Upto.lt_add Oper.semAt_some wide_depth wide_fn
def reOp (t : Int) (f : List Jp) : Int × List Jp := (reE f t, reR f t)
theorem reOp_len (t : Int) (f : List Jp) : (reOp t f).2.length ≤ 1024 := by
  unfold reOp reR
  simp only
  split
  · rename_i h
    exact mayJ_len (reE_zero.1 h).2
  · simp
end Go.Proofs.Ytoghgjgaolinaaa
set_option linter.unusedVariables false
set_option linter.unusedSimpArgs false
namespace Go.Proofs.Ytoghgjgaolinaaa
open Go.RowKit
attribute [local go_sem] GW.cell GW.frozen In.eq_true In.le_true In.ne In.ne' In.ne_add In.ne_add' In.lt_add Upto.le_true Upto.le_add Upto.lt_add
/-- What is made of each row's jumps, of edges in form. -/
def mpE (op : List Jp → Int × List Jp) (l : List Ed) : Int := if mayE l then eachE op (grp l) else 2
def mpR (op : List Jp → Int × List Jp) (l : List Ed) : List Ed := if mayE l then eachR op (grp l) else []
theorem grp_r8 {l : List Ed} (h : mayE l = true) : ∀ g ∈ grp l, g.1.length ≤ 8 := fun g hg => by
  obtain ⟨k1, k2, k3⟩ := grp_rows (mayE_rise h)
  obtain ⟨e, he, hee⟩ := (k2 g.1).1 (List.mem_map.2 ⟨g, hg, rfl⟩)
  rw [← hee]
  exact mayR_len ((mayE_rise h).1 e he)
end Go.Proofs.Ytoghgjgaolinaaa
