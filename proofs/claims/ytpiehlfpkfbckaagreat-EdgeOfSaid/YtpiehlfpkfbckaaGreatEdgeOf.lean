/-
  Layer 10 (edge), 10.2: a row once, at the ticks of a span, has the edges that the document says, and they are a table: for every row, and span. No condition.
-/
import Derived.Test.YtpiehlfpkfbckaaGreatEdgL
import Derived.Test.YtpiehlfpkfbckaaGreatArgE
import Derived.Test.YtpiehlfpkfbckaaGreatEdgMp
import Derived.Test.YtpiehlfpkfbckaaGreatStepC
import Derived.WalkKit
import Derived.ProofKit
import Derived.OpenShut
import Derived.ShutString
import Derived.ChangeOld
import Derived.Below
import Derived.Lib.SmallJoins
import Derived.SizedLaws
import Derived.Deep.CondSized
import Derived.JoinedCond
set_option linter.unusedVariables false
set_option linter.unusedSimpArgs false
namespace Go.Proofs.YtpiehlfpkfbckaaGreat.edgeOf
open Go.ChangeShapes Go.WideShapes Go.ChangeAt Go.RowKit Go.Joins
open Go.ChangeMaps (open_string shut_string)
attribute [local go_sem] GW.cell GW.frozen In.eq_true In.le_true In.ne In.ne' In.ne_add In.ne_add' In.lt_add Upto.le_true Upto.le_add Upto.lt_add

set_option maxHeartbeats 8000000 in
set_option maxRecDepth 100000 in
theorem walk (r : List Vl) (f t : Int) (v : Value) (w : World) (hr : Rw w [] v r) : Calls Tryz.prog 4 #[v, .agg #[.int .i64 f, .int .i64 t]] w fun e w' => e = .returned (.bool true) ∧ Ext w w' := by
  have hA := hide (fun w' (hX : Ext w w') => edgeOf_c r f t v w' (Sl.ext hr hX))
  have hB := hide (fun w' (hX : Ext w w') => refEdgeOf_c r f t v w' (Sl.ext hr hX))
  have hr' := hide hr
  obtain ⟨VB, bcap, rfl⟩ := rw_val hr
  have hok := hide (fun h => once_ok (r := r) (f := f) (t := t) h)
  have O0 := hide (Ob.new w 33 [.int .i64 f, .int .i64 t])
  have hX0 := hide ((Ext.refl w).alloc (.cells #[.int .i64 f, .int .i64 t] 33))
  have hO1 : Hid (∀ w', Ext (w.alloc (.cells #[.int .i64 f, .int .i64 t] 33)) w' → w'.cell? ⟨w.heap.size, 0, none⟩ = some (.int .i64 f) ∧ w'.cell? ⟨w.heap.size, 0 + 1, none⟩ = some (.int .i64 t) ∧ w.heap.size < w'.heap.size) := fun w' hX => ⟨(O0.out.ext hX).cell 0 rfl, (O0.out.ext hX).cell 1 rfl, (O0.out.ext hX).lt⟩
  clear hr
  by_cases q : ofE r f t = 0
  · obtain ⟨ha, hm, htb, hat⟩ := hok.out q
    rw [q] at hA hB
    obtain ⟨R, hR⟩ : ∃ R, R = ofR r f t := ⟨_, rfl⟩
    obtain ⟨J, hJ⟩ : ∃ J, J = jmps (ofR r f t) r := ⟨_, rfl⟩
    rw [← hR] at hA hB hm htb
    rw [← hJ] at hat
    have hRJ := hide (show jmps R r = J by rw [hR, hJ])
    replace ha := hide ha
    replace hm := hide hm
    replace htb := hide htb
    replace q := hide q
    have hAt := hide (fun v w (h : Jw w [] v J) => refStepAt_c J f v w h)
    rw [hat] at hAt
    clear hR hJ hat hok
    go_enter Tryz.func4, Tryz.ntmps4
    go_wp2_with (first | (go_at_call 19; ((with_reducible refine (hA.out _ hX0.out).mono ?_); rintro ee w1 ⟨u1, N1, rfl, hN1, o1, x1⟩; have s1 := hide o1.ew; obtain ⟨A1, c1, rfl⟩ := own_form o1.1; replace hN1 := hide hN1; have X1 : Ext w w1 := hX0.out.trans (x1);  clear o1); have cc := hO1.out _ x1; have kk0 := cc.1; have kk1 := cc.2.1; have kk2 : In w.heap.size _ := ⟨cc.2.2⟩) | (go_at_call 20; ((with_reducible refine (hB.out _ X1).mono ?_); rintro ee w2 ⟨u2, N2, rfl, hN2, o2, x2⟩; have s2 := hide o2.ew; obtain ⟨A2, c2, rfl⟩ := own_form o2.1; replace hN2 := hide hN2; have X2 : Ext w w2 := X1.trans (x2); replace s1 := hide (s1.out.ext x2);  clear o2)))
    have hS1 := hide (fun w' (hX : Ext w2 w') => refEdgeSame_c (s1.out.ext hX) (s2.out.ext hX))
    have hS2 := hide (fun w' (hX : Ext w2 w') => edgeSame_c (s1.out.ext hX) (s2.out.ext hX))
    rw [decide_eq_true (hN1.out.trans hN2.out.symm)] at hS1 hS2
    have hTb := hide (fun w' (hX : Ext w2 w') => edgeTable_c N1 _ w' (s1.out.ext hX))
    rw [hN1.out, htb.out] at hTb
    have hJp := hide (fun w' (hX : Ext w2 w') => edgeJumps_c N1 r _ _ w' (s1.out.ext hX) (Sl.ext hr'.out (X2.trans hX)))
    rw [hN1.out, hm.out, if_pos rfl, hRJ.out] at hJp
    have q0 := hide (((O0.out.ext x1).ext x2).cell 0 rfl)
    refine wp_region_list [(.is (.bool true)), (.is (.bool true)), (.is (.int .i64 0)), (.is (.int .i64 0)), (.is (.bool true)), (.is (.bool true)), (.is (.bool true)), (.is (.slice A1 N1.length c1)), (.is (.slice A2 N2.length c2)), (.is (.bool true)), (.is (.bool true)), (.is (.bool true)), (.is (.slice A1 N1.length c1)), (.is (.slice A2 N2.length c2)), (.is (.bool true)), (.is (.bool true)), (.is (.bool true)), (.is (.int .i64 0)), (.is (.bool false)), (.is (.bool false)), (.is (.slice A1 N1.length c1)), (.is (.bool true)), (.is (.bool true)), (.is (.slice A1 N1.length c1)), (.is (.slice VB r.length bcap)), (.st (fun u w => Jw w [] u J) (fun _ _ _ h k => Sl.ext h k)), (.is (.pointer (some ⟨w.heap.size, 0, none⟩))), (.is (.int .i64 f)), (.is (.int .i64 1)), (.is (.bool true)), (.is (.bool true)), (.is (.bool true)), (.is (.bool true)), (.is (.bool true))] (by kernel_rfl) (by kernel_rfl) (by kernel_rfl) ?_ ?_
    · refine ⟨?_, ?_, ?_, ?_, ?_, ?_, ?_, ?_, ?_, ?_, ?_, ?_, ?_, ?_, ?_, ?_, ?_, ?_, ?_, ?_, ?_, ?_, ?_, ?_, ?_, ?_, ?_, ?_, ?_, ?_, ?_, ?_, ?_, ?_, trivial⟩
      · intro b w' h
        refine good_call (wanted_none rfl) rfl (enters Tryz.func11 (by kernel_rfl) rfl) ?_
        rw [show (#[] : Array Operand).map b.eval = #[] by simp [Act.eval]]
        exact (edgLive_c _).mono fun e w1 ⟨he, hx⟩ => ⟨_, he, rfl, hx⟩
      · intro b w' h
        have f21 : b.tmps.getD 21 undef = .bool true := h.dep 0 _ 21 (by kernel_rfl) rfl rfl
        exact (good_move (wanted_none rfl) rfl f21)
      · intro b w' h
        have f22 : b.tmps.getD 22 undef = .bool true := h.dep 1 _ 22 (by kernel_rfl) rfl rfl
        have f6 : b.tmps.getD 6 undef = .int .i64 0 := h.else_ 6 (of_decide_eq_true (by kernel_rfl))
        exact (good_move (wanted_yes rfl rfl f22) rfl f6)
      · intro b w' h
        have f22 : b.tmps.getD 22 undef = .bool true := h.dep 1 _ 22 (by kernel_rfl) rfl rfl
        have f8 : b.tmps.getD 8 undef = .int .i64 0 := h.else_ 8 (of_decide_eq_true (by kernel_rfl))
        exact (good_move (wanted_yes rfl rfl f22) rfl f8)
      · intro b w' h
        have f22 : b.tmps.getD 22 undef = .bool true := h.dep 1 _ 22 (by kernel_rfl) rfl rfl
        have f23 : b.tmps.getD 23 undef = .int .i64 0 := h.dep 2 _ 23 (by kernel_rfl) rfl rfl
        have f24 : b.tmps.getD 24 undef = .int .i64 0 := h.dep 3 _ 24 (by kernel_rfl) rfl rfl
        exact (good_bin (wanted_yes rfl rfl f22) rfl f23 f24 (by first | exact guard_int _ | exact guard_str _) (by exact run_eql_int Tryz.underlying25 _ _ (by rfl) _) rfl)
      · intro b w' h
        have f22 : b.tmps.getD 22 undef = .bool true := h.dep 1 _ 22 (by kernel_rfl) rfl rfl
        have f25 : b.tmps.getD 25 undef = .bool true := h.dep 4 _ 25 (by kernel_rfl) rfl rfl
        exact (good_pick (wanted_none rfl) rfl f22 f25)
      · intro b w' h
        have f26 : b.tmps.getD 26 undef = .bool true := h.dep 5 _ 26 (by kernel_rfl) rfl rfl
        exact (good_move (wanted_none rfl) rfl f26)
      · intro b w' h
        have f27 : b.tmps.getD 27 undef = .bool true := h.dep 6 _ 27 (by kernel_rfl) rfl rfl
        have f5 : b.tmps.getD 5 undef = .slice A1 N1.length c1 := h.else_ 5 (of_decide_eq_true (by kernel_rfl))
        exact (good_move (wanted_yes rfl rfl f27) rfl f5)
      · intro b w' h
        have f27 : b.tmps.getD 27 undef = .bool true := h.dep 6 _ 27 (by kernel_rfl) rfl rfl
        have f7 : b.tmps.getD 7 undef = .slice A2 N2.length c2 := h.else_ 7 (of_decide_eq_true (by kernel_rfl))
        exact (good_move (wanted_yes rfl rfl f27) rfl f7)
      · intro b w' h
        have f27 : b.tmps.getD 27 undef = .bool true := h.dep 6 _ 27 (by kernel_rfl) rfl rfl
        have f28 : b.tmps.getD 28 undef = .slice A1 N1.length c1 := h.dep 7 _ 28 (by kernel_rfl) rfl rfl
        have f29 : b.tmps.getD 29 undef = .slice A2 N2.length c2 := h.dep 8 _ 29 (by kernel_rfl) rfl rfl
        refine good_call (wanted_yes rfl rfl f27) rfl (enters Tryz.func14 (by kernel_rfl) rfl) ?_
        rw [show (#[.tmp 28, .tmp 29] : Array Operand).map b.eval = #[.slice A1 N1.length c1, .slice A2 N2.length c2] by simp [Act.eval, f28, f29]]
        exact (hS1.out _ h.ext).mono fun e w1 ⟨he, hx⟩ => ⟨_, he, rfl, hx⟩
      · intro b w' h
        have f27 : b.tmps.getD 27 undef = .bool true := h.dep 6 _ 27 (by kernel_rfl) rfl rfl
        have f30 : b.tmps.getD 30 undef = .bool true := h.dep 9 _ 30 (by kernel_rfl) rfl rfl
        exact (good_pick (wanted_none rfl) rfl f27 f30)
      · intro b w' h
        have f31 : b.tmps.getD 31 undef = .bool true := h.dep 10 _ 31 (by kernel_rfl) rfl rfl
        exact (good_move (wanted_none rfl) rfl f31)
      · intro b w' h
        have f32 : b.tmps.getD 32 undef = .bool true := h.dep 11 _ 32 (by kernel_rfl) rfl rfl
        have f5 : b.tmps.getD 5 undef = .slice A1 N1.length c1 := h.else_ 5 (of_decide_eq_true (by kernel_rfl))
        exact (good_move (wanted_yes rfl rfl f32) rfl f5)
      · intro b w' h
        have f32 : b.tmps.getD 32 undef = .bool true := h.dep 11 _ 32 (by kernel_rfl) rfl rfl
        have f7 : b.tmps.getD 7 undef = .slice A2 N2.length c2 := h.else_ 7 (of_decide_eq_true (by kernel_rfl))
        exact (good_move (wanted_yes rfl rfl f32) rfl f7)
      · intro b w' h
        have f32 : b.tmps.getD 32 undef = .bool true := h.dep 11 _ 32 (by kernel_rfl) rfl rfl
        have f33 : b.tmps.getD 33 undef = .slice A1 N1.length c1 := h.dep 12 _ 33 (by kernel_rfl) rfl rfl
        have f34 : b.tmps.getD 34 undef = .slice A2 N2.length c2 := h.dep 13 _ 34 (by kernel_rfl) rfl rfl
        refine good_call (wanted_yes rfl rfl f32) rfl (enters Tryz.func21 (by kernel_rfl) rfl) ?_
        rw [show (#[.tmp 33, .tmp 34] : Array Operand).map b.eval = #[.slice A1 N1.length c1, .slice A2 N2.length c2] by simp [Act.eval, f33, f34]]
        exact (hS2.out _ h.ext).mono fun e w1 ⟨he, hx⟩ => ⟨_, he, rfl, hx⟩
      · intro b w' h
        have f32 : b.tmps.getD 32 undef = .bool true := h.dep 11 _ 32 (by kernel_rfl) rfl rfl
        have f35 : b.tmps.getD 35 undef = .bool true := h.dep 14 _ 35 (by kernel_rfl) rfl rfl
        exact (good_pick (wanted_none rfl) rfl f32 f35)
      · intro b w' h
        have f36 : b.tmps.getD 36 undef = .bool true := h.dep 15 _ 36 (by kernel_rfl) rfl rfl
        exact (good_move (wanted_none rfl) rfl f36)
      · intro b w' h
        have f37 : b.tmps.getD 37 undef = .bool true := h.dep 16 _ 37 (by kernel_rfl) rfl rfl
        have f6 : b.tmps.getD 6 undef = .int .i64 0 := h.else_ 6 (of_decide_eq_true (by kernel_rfl))
        exact (good_move (wanted_yes rfl rfl f37) rfl f6)
      · intro b w' h
        have f37 : b.tmps.getD 37 undef = .bool true := h.dep 16 _ 37 (by kernel_rfl) rfl rfl
        have f38 : b.tmps.getD 38 undef = .int .i64 0 := h.dep 17 _ 38 (by kernel_rfl) rfl rfl
        exact (good_bin (wanted_yes rfl rfl f37) rfl f38 rfl (by first | exact guard_int _ | exact guard_str _) (by exact run_neq_int Tryz.underlying25 _ _) rfl)
      · intro b w' h
        have f37 : b.tmps.getD 37 undef = .bool true := h.dep 16 _ 37 (by kernel_rfl) rfl rfl
        have f39 : b.tmps.getD 39 undef = .bool false := h.dep 18 _ 39 (by kernel_rfl) rfl rfl
        exact (good_move (wanted_yes rfl rfl f37) rfl f39)
      · intro b w' h
        have f40 : b.tmps.getD 40 undef = .bool false := h.dep 19 _ 40 (by kernel_rfl) rfl rfl
        have f5 : b.tmps.getD 5 undef = .slice A1 N1.length c1 := h.else_ 5 (of_decide_eq_true (by kernel_rfl))
        exact (good_move (wanted_yes rfl rfl f40) rfl f5)
      · intro b w' h
        have f40 : b.tmps.getD 40 undef = .bool false := h.dep 19 _ 40 (by kernel_rfl) rfl rfl
        have f41 : b.tmps.getD 41 undef = .slice A1 N1.length c1 := h.dep 20 _ 41 (by kernel_rfl) rfl rfl
        refine good_call (wanted_yes rfl rfl f40) rfl (enters Tryz.func16 (by kernel_rfl) rfl) ?_
        rw [show (#[.tmp 41] : Array Operand).map b.eval = #[.slice A1 N1.length c1] by simp [Act.eval, f41]]
        exact (hTb.out _ h.ext).mono fun e w1 ⟨he, hx⟩ => ⟨_, he, rfl, hx⟩
      · intro b w' h
        have f40 : b.tmps.getD 40 undef = .bool false := h.dep 19 _ 40 (by kernel_rfl) rfl rfl
        have f42 : b.tmps.getD 42 undef = .bool true := h.dep 21 _ 42 (by kernel_rfl) rfl rfl
        exact (good_move (wanted_yes rfl rfl f40) rfl f42)
      · intro b w' h
        have f43 : b.tmps.getD 43 undef = .bool true := h.dep 22 _ 43 (by kernel_rfl) rfl rfl
        have f5 : b.tmps.getD 5 undef = .slice A1 N1.length c1 := h.else_ 5 (of_decide_eq_true (by kernel_rfl))
        exact (good_move (wanted_yes rfl rfl f43) rfl f5)
      · intro b w' h
        have f43 : b.tmps.getD 43 undef = .bool true := h.dep 22 _ 43 (by kernel_rfl) rfl rfl
        have f0 : b.tmps.getD 0 undef = .slice VB r.length bcap := h.else_ 0 (of_decide_eq_true (by kernel_rfl))
        exact (good_move (wanted_yes rfl rfl f43) rfl f0)
      · intro b w' h
        have f43 : b.tmps.getD 43 undef = .bool true := h.dep 22 _ 43 (by kernel_rfl) rfl rfl
        have f44 : b.tmps.getD 44 undef = .slice A1 N1.length c1 := h.dep 23 _ 44 (by kernel_rfl) rfl rfl
        have f45 : b.tmps.getD 45 undef = .slice VB r.length bcap := h.dep 24 _ 45 (by kernel_rfl) rfl rfl
        refine good_call (wanted_yes rfl rfl f43) rfl (enters Tryz.func23 (by kernel_rfl) rfl) ?_
        rw [show (#[.tmp 44, .tmp 45] : Array Operand).map b.eval = #[.slice A1 N1.length c1, .slice VB r.length bcap] by simp [Act.eval, f44, f45]]
        exact (hJp.out _ h.ext).mono fun e w1 ⟨v, he, ho, hx⟩ => ⟨v, he, ho, hx⟩
      · intro b w' h
        have f43 : b.tmps.getD 43 undef = .bool true := h.dep 22 _ 43 (by kernel_rfl) rfl rfl
        have f3 : b.tmps.getD 3 undef = .pointer (some ⟨w.heap.size, 0, none⟩) := h.else_ 3 (of_decide_eq_true (by kernel_rfl))
        exact (good_field (wanted_yes rfl rfl f43) rfl f3 (by simp [go_sem]) rfl)
      · intro b w' h
        have f43 : b.tmps.getD 43 undef = .bool true := h.dep 22 _ 43 (by kernel_rfl) rfl rfl
        have f47 : b.tmps.getD 47 undef = .pointer (some ⟨w.heap.size, 0, none⟩) := h.dep 26 _ 47 (by kernel_rfl) rfl rfl
        have k0 := cell_later h.ext q0.out
        exact (good_load (wanted_yes rfl rfl f43) rfl f47 (by simp [go_sem, k0]) rfl)
      · intro b w' h
        have f43 : b.tmps.getD 43 undef = .bool true := h.dep 22 _ 43 (by kernel_rfl) rfl rfl
        have f46 := h.dep 25 _ 46 (by kernel_rfl) rfl rfl
        have f48 : b.tmps.getD 48 undef = .int .i64 f := h.dep 27 _ 48 (by kernel_rfl) rfl rfl
        refine good_call (wanted_yes rfl rfl f43) rfl (enters Tryz.func22 (by kernel_rfl) rfl) ?_
        rw [show (#[.tmp 46, .tmp 48] : Array Operand).map b.eval = #[b.tmps.getD 46 undef, .int .i64 f] by simp [Act.eval, f48]]
        exact (hAt.out _ _ f46).mono fun e w1 ⟨he, hx⟩ => ⟨_, he, rfl, hx⟩
      · intro b w' h
        have f43 : b.tmps.getD 43 undef = .bool true := h.dep 22 _ 43 (by kernel_rfl) rfl rfl
        have f49 : b.tmps.getD 49 undef = .int .i64 1 := h.dep 28 _ 49 (by kernel_rfl) rfl rfl
        exact (good_bin (wanted_yes rfl rfl f43) rfl f49 rfl (by first | exact guard_int _ | exact guard_str _) (by exact run_eql_int Tryz.underlying3 _ _ (by rfl) _) rfl)
      · intro b w' h
        have f40 : b.tmps.getD 40 undef = .bool false := h.dep 19 _ 40 (by kernel_rfl) rfl rfl
        have f43 : b.tmps.getD 43 undef = .bool true := h.dep 22 _ 43 (by kernel_rfl) rfl rfl
        have f50 : b.tmps.getD 50 undef = .bool true := h.dep 29 _ 50 (by kernel_rfl) rfl rfl
        exact (good_pick (wanted_yes rfl rfl f40) rfl f43 f50)
      · intro b w' h
        have f37 : b.tmps.getD 37 undef = .bool true := h.dep 16 _ 37 (by kernel_rfl) rfl rfl
        have f40 : b.tmps.getD 40 undef = .bool false := h.dep 19 _ 40 (by kernel_rfl) rfl rfl
        have f51 : b.tmps.getD 51 undef = .bool true := h.dep 30 _ 51 (by kernel_rfl) rfl rfl
        exact (good_pickF (wanted_yes rfl rfl f37) rfl f40 f51)
      · intro b w' h
        have f37 : b.tmps.getD 37 undef = .bool true := h.dep 16 _ 37 (by kernel_rfl) rfl rfl
        have f52 : b.tmps.getD 52 undef = .bool true := h.dep 31 _ 52 (by kernel_rfl) rfl rfl
        exact (good_pick (wanted_none rfl) rfl f37 f52)
      · intro b w' h
        have f53 : b.tmps.getD 53 undef = .bool true := h.dep 32 _ 53 (by kernel_rfl) rfl rfl
        exact (good_assign (wanted_none rfl) rfl f53)
    · intro b w' hx hd hz he hf
      have f4 : b.tmps.getD 4 undef = .bool true := hf 33 _ 4 rfl rfl
      replace hd : b.defers = [] := hd
      clear hf he hz
      go_wp2_with fail
      exact ret_one Tryz.results4 f4 hd ⟨rfl, X2.trans hx⟩
  · have be : (ofE r f t != 0) = true := by rw [bne_iff_ne]; exact q
    generalize ofE r f t = E1 at *
    generalize ofR r f t = R at *
    have bs : (E1 == E1) = true := by simp
    replace q := hide q
    clear hok
    go_enter Tryz.func4, Tryz.ntmps4
    go_wp2_with (first | (go_at_call 19; ((with_reducible refine (hA.out _ hX0.out).mono ?_); rintro ee w1 ⟨u1, N1, rfl, hN1, o1, x1⟩; have s1 := hide o1.ew; obtain ⟨A1, c1, rfl⟩ := own_form o1.1; replace hN1 := hide hN1; have X1 : Ext w w1 := hX0.out.trans (x1);  clear o1); have cc := hO1.out _ x1; have kk0 := cc.1; have kk1 := cc.2.1; have kk2 : In w.heap.size _ := ⟨cc.2.2⟩) | (go_at_call 20; ((with_reducible refine (hB.out _ X1).mono ?_); rintro ee w2 ⟨u2, N2, rfl, hN2, o2, x2⟩; have s2 := hide o2.ew; obtain ⟨A2, c2, rfl⟩ := own_form o2.1; replace hN2 := hide hN2; have X2 : Ext w w2 := X1.trans (x2); replace s1 := hide (s1.out.ext x2);  clear o2)))
    have hS1 := hide (fun w' (hX : Ext w2 w') => refEdgeSame_c (s1.out.ext hX) (s2.out.ext hX))
    have hS2 := hide (fun w' (hX : Ext w2 w') => edgeSame_c (s1.out.ext hX) (s2.out.ext hX))
    rw [decide_eq_true (hN1.out.trans hN2.out.symm)] at hS1 hS2
    refine wp_region_gw (by kernel_rfl) (by kernel_rfl) ?_
    repeat (go_big_quiet_step ((first | (go_at_call 11; with_reducible exact quiet_gw (edgLive_c _)) | (go_at_call 14; with_reducible exact quiet_gw (hS1.out _ (GW.grown _))) | (go_at_call 21; with_reducible exact quiet_gw (hS2.out _ (GW.grown _))))))
    refine wpQuiet_nil ?_
    intro g
    go_wp2_with fail
    go_returns
    exact ⟨by first | rfl | simp, X2.trans g.grown⟩

theorem own : ownKnob Tryz.prog.godebug = none := by kernel_rfl
theorem laidOut : laidOutB Tryz.prog = true := by kernel_rfl
set_option maxRecDepth 100000 in
theorem lifted (os : Os) (started : os.Started) (H : Type) (enc : TypeId × Value → H) :
    ReturnsInHanded {} Tryz.checked os 4 .any (Rows.edgeOfSpec.pre6 enc Tryz.prog Tryz.f4 Rows.edgeOfRow.domain false) (Rows.edgeOfSpec.post enc Tryz.prog Tryz.f4 false true false false) := by
  refine returnsInHanded_of_change_sized (C := Tryz.checked) own started (by kernel_rfl) Tryz.func4
    (ChangeSpec.witness6 (enc := enc) (C := Tryz.checked) false ⟨#[], #[.slice none 0 0, .agg #[.int .i64 0, .int .i64 0]], []⟩ 8 (by kernel_rfl) (by kernel_rfl) (by kernel_rfl) (by kernel_rfl)) ?_
  intro W base args ds gs before hval0 hW hcnd hsz0 _
  have hsz : (DataW.weightsEach Tryz.prog (Tryz.f4.params.toList ++ Rows.edgeOfSpec.plain.varTypes Tryz.prog) (ds ++ gs)).all (· ≤ reachBytes) = true := hsz0
  clear hsz0
  have hval : ∀ (j : Nat) t v, Tryz.f4.params[j]? = some t → args[j]? = some v → Value.okWide Tryz.prog W .any base t v := hval0
  have hW' := hW
  obtain ⟨p, q, hA0, hV, rfl, hfz, hnd⟩ := hW
  have hA : DataW.TrodAll enc Tryz.prog W 0 (fun _ => true) true Tryz.f4.params.toList args.toList ds p := hA0
  rw [Tryz.params4] at hA hval hsz
  obtain ⟨v0, vs0, d0, ds0, p0, q0, hargs, rfl, rfl, h0, r0⟩ := trodAll_cons hA
  obtain ⟨v1, vs1, d1, ds1, p1, q1, rfl, rfl, rfl, h1, r1⟩ := trodAll_cons r0
  obtain ⟨rfl, rfl, rfl⟩ := trodAll_nil r1
  obtain rfl : args = #[v0, v1] := by cases args; simp_all
  obtain ⟨rfl, rfl⟩ := trodVars_none hV
  have k0 := h0
  have lt0 : ∀ x ∈ p0, x.block < W.heap.size := by obtain ⟨m, hm⟩ := k0; exact DataW.trod_lt m _ _ _ hm
  obtain ⟨A0, n0, c0, rfl⟩ := okWide_slice Tryz.underlying31 (hval 0 31 v0 rfl rfl)
  have ⟨m0, hm0⟩ := h0
  obtain ⟨r, lr, hr, qr⟩ := open_row Tryz.underlying31 Tryz.underlying54 (by kernel_rfl) rfl rfl rfl (by kernel_rfl) (by kernel_rfl) (by kernel_rfl) Tryz.underlying52 Tryz.underlying3 Tryz.underlying9 hm0
  have zr : r.length * 32 ≤ 140737488351232 := by rw [lr]; exact sized_elems hsz (j := 0) (t := 31) (e := 54) rfl rfl Tryz.underlying31 (by kernel_rfl)
  have k1 := h1
  have lt1 : ∀ x ∈ p1, x.block < W.heap.size := by obtain ⟨m, hm⟩ := k1; exact DataW.trod_lt m _ _ _ hm
  obtain ⟨c1a, c1b, y1a, y1b, m1, rfl, _, _, hy1a, hy1b⟩ := open_agg2 Tryz.underlying33 (by kernel_rfl) (by kernel_rfl) (hval 1 33 v1 rfl rfl) h1
  obtain ⟨sa, e1a, _, wsa⟩ := DataW.trod_int Tryz.underlying3 hy1a
  simp at e1a; subst e1a
  obtain ⟨sb, e1b, _, wsb⟩ := DataW.trod_int Tryz.underlying3 hy1b
  simp at e1b; subst e1b
  clear hA0 hval0
  refine (walk r sa sb _ W hr).mono fun e W' ⟨he, bel⟩ => ?_
  subst he
  exact ⟨_, rfl, _, _, _, [], _, [], hW', trodAll_mk1 (shut_bool Tryz.underlying4 _), (trodAll_cons_mk (Below.trod laidOut (by kernel_rfl) (of_decide_eq_true (by kernel_rfl)) k0 bel lt0) (trodAll_cons_mk (Below.trod laidOut (by kernel_rfl) (of_decide_eq_true (by kernel_rfl)) k1 bel lt1) trodAll_mk0)), rfl, bel.frame _, fun h => by cases h⟩

theorem over : Rows.edgeOfRow.holds Tryz.pinned (OpenSpec.ofChange Rows.edgeOfSpec) :=
  OpenClaim.holds_of_wide 4 Tryz.f4 rfl rfl rfl rfl rfl rfl rfl ⟨rfl, rfl, rfl, rfl, rfl⟩ rfl rfl rfl rfl rfl (by kernel_rfl) Tryz.func4 (by kernel_rfl)
    (of_decide_eq_true (by kernel_rfl)) (by unfold Func.isWrapper; first | (rw [if_pos (by decide +kernel)]; kernel_rfl) | (rw [if_neg (by decide +kernel)]; exact ⟨rfl, rfl⟩))
    (fun os started H enc _ => lifted os started H enc)

theorem edgeOf_holds : Rows.EdgeOfSaid := over
end Go.Proofs.YtpiehlfpkfbckaaGreat.edgeOf
