/-
  A helper of ours: no claim of its own. Layer 23 (wide): what the code's functions return.
-/
import Derived.Test.YthckegejbcagmaaWidR
import Derived.Test.YthckegejbcagmaaWidS
import Derived.Test.YthckegejbcagmaaMem
import Derived.Test.YthckegejbcagmaaBits
import Derived.Test.YthckegejbcagmaaReg2
import Derived.Test.YthckegejbcagmaaReg3
import Derived.Test.YthckegejbcagmaaShelf
import Derived.Laws.Externs
import Derived.Handy
import Derived.BigQuiet
import Derived.Deep.LoopGhost
set_option linter.unusedVariables false
set_option linter.unusedSimpArgs false
namespace Go.Proofs.Ythckegejbcagmaa
open Go.RowKit
attribute [local go_sem] GW.cell GW.frozen In.eq_true In.le_true In.ne In.ne' In.ne_add In.ne_add' In.lt_add Upto.le_true Upto.le_add Upto.lt_add
def boxF (n : Nat) : Fact := .st (fun v w' => ∃ B, v = .pointer (some ⟨B, 0, none⟩) ∧ n + 3 ≤ B ∧ Ob w' B 67 [.int .u64 0, .int .u64 0, .int .u64 0, .int .u64 0, .int .i64 0]) (fun v w w' ⟨B, h1, h2, h3⟩ hx => ⟨B, h1, h2, h3.ext hx⟩)
set_option maxHeartbeats 4000000 in
set_option maxRecDepth 100000 in
theorem wrefAdd_c (x y : Int) (hx : InW x) (hy : InW y) (w : World) : Calls Try.prog 12 #[wv x, wv y] w fun e w' => e = .returned (.tuple #[wv (okW (x + y)), .int .i64 (erW (x + y))]) ∧ Ext w w' := by
  have hP1 := hide (fun w' => wparts_c x hx w')
  have hP2 := hide (fun w' => wparts_c y hy w')
  have hS := hide (fun w' => wsum_c x y hx hy w')
  have hF := hide (fun w' => wfits_c (x + y) (by unfold InW at hx hy; omega) w')
  have A0 : Hid (Ob (((w.alloc (.cells #[.int .i64 (hiW x), .int .u64 (loW x)] 24)).alloc (.cells #[.int .i64 (hiW y), .int .u64 (loW y)] 24)).alloc (.cells #[.int .i64 0, .int .u64 0] 24)) w.heap.size 24 [.int .i64 (hiW x), .int .u64 (loW x)]) := ((Ob.new w _ _).alloc _).alloc _
  have A1 : Hid (Ob (((w.alloc (.cells #[.int .i64 (hiW x), .int .u64 (loW x)] 24)).alloc (.cells #[.int .i64 (hiW y), .int .u64 (loW y)] 24)).alloc (.cells #[.int .i64 0, .int .u64 0] 24)) (w.heap.size + 1) 24 [.int .i64 (hiW y), .int .u64 (loW y)]) := by
    have h := Ob.new (w.alloc (.cells #[.int .i64 (hiW x), .int .u64 (loW x)] 24)) 24 [.int .i64 (hiW y), .int .u64 (loW y)]
    rw [World.size_alloc] at h
    exact h.alloc _
  have A2 : Hid (Ob (((w.alloc (.cells #[.int .i64 (hiW x), .int .u64 (loW x)] 24)).alloc (.cells #[.int .i64 (hiW y), .int .u64 (loW y)] 24)).alloc (.cells #[.int .i64 0, .int .u64 0] 24)) (w.heap.size + 1 + 1) 24 [.int .i64 0, .int .u64 0]) := by
    have h := Ob.new ((w.alloc (.cells #[.int .i64 (hiW x), .int .u64 (loW x)] 24)).alloc (.cells #[.int .i64 (hiW y), .int .u64 (loW y)] 24)) 24 [.int .i64 0, .int .u64 0]
    rw [World.size_alloc, World.size_alloc] at h
    exact h
  have hO : okW (x + y) = okW (x + y) := rfl
  by_cases hi : InW (x + y)
  · rw [okW_in hi, erW_in hi]
    have hB := hide (fun w' => wback_c (x + y) hi w')
    rw [decide_eq_true hi] at hF
    replace hx := hide hx
    replace hy := hide hy
    replace hi := hide hi
    go_enter Try.func12, Try.ntmps12
    go_wp2_with fail
    refine wp_region_list_tail 6 [(.is (wv x)), (.is (pv x)), (.is (wv y)), (.is (pv y)), (.is (pv (x + y))), boxF w.heap.size] (by kernel_rfl) (by kernel_rfl) (by kernel_rfl) (by kernel_rfl) (by kernel_rfl) (by kernel_rfl) (by kernel_rfl) ?_ ?_
    · refine ⟨?_, ?_, ?_, ?_, ?_, ?_, trivial⟩
      · intro b w' h hE
        have f2 : b.tmps.getD 2 undef = .pointer (some ⟨w.heap.size, 0, none⟩) := hE 2 (of_decide_eq_true (by kernel_rfl))
        have c0 := (A0.out.ext h.ext).cell 0 rfl
        have c1 := (A0.out.ext h.ext).cell 1 rfl
        exact good_load (wanted_none rfl) rfl f2 (by simp [go_sem, c0, c1]) rfl
      · intro b w' h hE
        have f7 : b.tmps.getD 7 undef = wv x := h.dep 0 _ 7 (by kernel_rfl) rfl rfl
        refine good_call (wanted_none rfl) rfl (enters Try.func43 (by kernel_rfl) rfl) ?_
        rw [show (#[Operand.tmp 7].map b.eval) = #[b.tmps.getD 7 undef] by simp [Act.eval], f7]
        exact (hP1.out _).mono fun e w'' ⟨he, hx⟩ => ⟨_, he, rfl, hx⟩
      · intro b w' h hE
        have f3 : b.tmps.getD 3 undef = .pointer (some ⟨w.heap.size + 1, 0, none⟩) := hE 3 (of_decide_eq_true (by kernel_rfl))
        have c0 := (A1.out.ext h.ext).cell 0 rfl
        have c1 := (A1.out.ext h.ext).cell 1 rfl
        exact good_load (wanted_none rfl) rfl f3 (by simp [go_sem, c0, c1]) rfl
      · intro b w' h hE
        have f9 : b.tmps.getD 9 undef = wv y := h.dep 2 _ 9 (by kernel_rfl) rfl rfl
        refine good_call (wanted_none rfl) rfl (enters Try.func43 (by kernel_rfl) rfl) ?_
        rw [show (#[Operand.tmp 9].map b.eval) = #[b.tmps.getD 9 undef] by simp [Act.eval], f9]
        exact (hP2.out _).mono fun e w'' ⟨he, hx⟩ => ⟨_, he, rfl, hx⟩
      · intro b w' h hE
        have f8 : b.tmps.getD 8 undef = pv x := h.dep 1 _ 8 (by kernel_rfl) rfl rfl
        have f10 : b.tmps.getD 10 undef = pv y := h.dep 3 _ 10 (by kernel_rfl) rfl rfl
        refine good_call (wanted_none rfl) rfl (enters Try.func42 (by kernel_rfl) rfl) ?_
        rw [show (#[Operand.tmp 8, Operand.tmp 10].map b.eval) = #[b.tmps.getD 8 undef, b.tmps.getD 10 undef] by simp [Act.eval], f8, f10]
        exact (hS.out _).mono fun e w'' ⟨he, hx⟩ => ⟨_, he, rfl, hx⟩
      · intro b w' h hE
        have hz0 := h.ext.size
        simp only [World.size_alloc] at hz0
        refine good_grow (w' := w'.alloc (.cells #[.int .u64 0, .int .u64 0, .int .u64 0, .int .u64 0, .int .i64 0] 67)) (v := .pointer (some ⟨w'.heap.size, 0, none⟩)) (wanted_none rfl) ?_ ⟨_, rfl, by omega, Ob.new w' _ _⟩ ((Ext.refl _).alloc _)
        simp [execOp, go_sem, Sem.run_bind, Sem.run_pure, Result.andThen_ok]
    · intro b w2 hX2 hd hz he' hf
      have e7 : b.tmps.getD 7 undef = wv x := hf 0 _ 7 (by omega) rfl rfl
      have e8 : b.tmps.getD 8 undef = pv x := hf 1 _ 8 (by omega) rfl rfl
      have e9 : b.tmps.getD 9 undef = wv y := hf 2 _ 9 (by omega) rfl rfl
      have e10 : b.tmps.getD 10 undef = pv y := hf 3 _ 10 (by omega) rfl rfl
      have e11 : b.tmps.getD 11 undef = pv (x + y) := hf 4 _ 11 (by omega) rfl rfl
      have f6 : ∃ B, (b.tmps.getD 6 undef) = .pointer (some ⟨B, 0, none⟩) ∧ w.heap.size + 3 ≤ B ∧ Ob w2 B 67 [.int .u64 0, .int .u64 0, .int .u64 0, .int .u64 0, .int .i64 0] := hf 5 _ 6 (by omega) rfl rfl
      have e := frame_puts hd hz he'
      obtain ⟨X, hXx⟩ : ∃ X : Nat → Value, ∀ d, b.tmps.getD d undef = X d := ⟨_, fun _ => rfl⟩
      rw [hXx] at e7 e8 e9 e10 e11 f6
      obtain ⟨B, q6, hBl, oB⟩ := f6
      rw [show dstsOf _ = [7, 8, 9, 10, 11, 6] from rfl] at e
      simp only [List.foldl_cons, List.foldl_nil, hXx, Act.put, List.setIfInBounds_toArray, List.set_cons_succ, List.set_cons_zero] at e
      rw [e7, e8, e9, e10, e11, q6] at e
      clear hf he' hz hd hXx e7 e8 e9 e10 e11 q6
      subst e
      simp only [List.drop_succ_cons, List.drop_zero]
      have x0 := A2.out.ext hX2
      have lt2 := x0.lt
      have ltB := oB.lt
      haveI : In (w.heap.size + 1 + 1) w2 := ⟨lt2⟩
      haveI : In B w2 := ⟨ltB⟩
      have b0 := oB.cell 0 rfl
      have b1 := oB.cell 1 rfl
      have b2 := oB.cell 2 rfl
      have b3 := oB.cell 3 rfl
      have b4 := oB.cell 4 rfl
      have k0 := oB.free 0
      have k1 := oB.free 1
      have k2 := oB.free 2
      have k3 := oB.free 3
      have k4 := oB.free 4
      have r0 := x0.cell 0 rfl
      have r1 := x0.cell 1 rfl
      have q0 := x0.free 0
      have q1 := x0.free 1
      have hne : (w.heap.size + 1 + 1 = B) = False := eq_false (by omega)
      have hne2 : (B = w.heap.size + 1 + 1) = False := eq_false (by omega)
      have hX3 := hide (((((Ext.refl w).alloc (.cells #[.int .i64 (hiW x), .int .u64 (loW x)] 24)).alloc (.cells #[.int .i64 (hiW y), .int .u64 (loW y)] 24)).alloc (.cells #[.int .i64 0, .int .u64 0] 24)).trans hX2)
      replace oB := hide oB
      replace x0 := hide x0
      go_wp2_with (first | (go_at_call 44; (with_reducible refine seq_gw' (hF.out _) ?_); intro g1) | (go_at_call 44; (with_reducible refine seq_gw (hF.out _) ?_); intro g1) | (go_at_call 45; (with_reducible refine seq_gw' (hB.out _) ?_); intro g2) | (go_at_call 45; (with_reducible refine seq_gw (hB.out _) ?_); intro g2))
      first | go_returns | refine bodyPost_ret (by simp [results, Try.results12, go_sem, r0, r1]; try rfl) rfl ?_
      refine ⟨by first | rfl | simp, ?_⟩
      have hX4 := hX3.out
      repeat (first | exact Ext.refl _ | with_reducible assumption | refine ext_gw ?_ _ | refine Ext.setCell ?_ (by first | (simp; done) | (simp; omega)) _)
    
  · rw [okW_out hi, erW_out hi]
    unfold wv
    rw [hi_zero, lo_zero]
    have hB := hide True.intro
    rw [decide_eq_false hi] at hF
    replace hx := hide hx
    replace hy := hide hy
    replace hi := hide hi
    go_enter Try.func12, Try.ntmps12
    go_wp2_with fail
    refine wp_region_list_tail 6 [(.is (wv x)), (.is (pv x)), (.is (wv y)), (.is (pv y)), (.is (pv (x + y))), boxF w.heap.size] (by kernel_rfl) (by kernel_rfl) (by kernel_rfl) (by kernel_rfl) (by kernel_rfl) (by kernel_rfl) (by kernel_rfl) ?_ ?_
    · refine ⟨?_, ?_, ?_, ?_, ?_, ?_, trivial⟩
      · intro b w' h hE
        have f2 : b.tmps.getD 2 undef = .pointer (some ⟨w.heap.size, 0, none⟩) := hE 2 (of_decide_eq_true (by kernel_rfl))
        have c0 := (A0.out.ext h.ext).cell 0 rfl
        have c1 := (A0.out.ext h.ext).cell 1 rfl
        exact good_load (wanted_none rfl) rfl f2 (by simp [go_sem, c0, c1]) rfl
      · intro b w' h hE
        have f7 : b.tmps.getD 7 undef = wv x := h.dep 0 _ 7 (by kernel_rfl) rfl rfl
        refine good_call (wanted_none rfl) rfl (enters Try.func43 (by kernel_rfl) rfl) ?_
        rw [show (#[Operand.tmp 7].map b.eval) = #[b.tmps.getD 7 undef] by simp [Act.eval], f7]
        exact (hP1.out _).mono fun e w'' ⟨he, hx⟩ => ⟨_, he, rfl, hx⟩
      · intro b w' h hE
        have f3 : b.tmps.getD 3 undef = .pointer (some ⟨w.heap.size + 1, 0, none⟩) := hE 3 (of_decide_eq_true (by kernel_rfl))
        have c0 := (A1.out.ext h.ext).cell 0 rfl
        have c1 := (A1.out.ext h.ext).cell 1 rfl
        exact good_load (wanted_none rfl) rfl f3 (by simp [go_sem, c0, c1]) rfl
      · intro b w' h hE
        have f9 : b.tmps.getD 9 undef = wv y := h.dep 2 _ 9 (by kernel_rfl) rfl rfl
        refine good_call (wanted_none rfl) rfl (enters Try.func43 (by kernel_rfl) rfl) ?_
        rw [show (#[Operand.tmp 9].map b.eval) = #[b.tmps.getD 9 undef] by simp [Act.eval], f9]
        exact (hP2.out _).mono fun e w'' ⟨he, hx⟩ => ⟨_, he, rfl, hx⟩
      · intro b w' h hE
        have f8 : b.tmps.getD 8 undef = pv x := h.dep 1 _ 8 (by kernel_rfl) rfl rfl
        have f10 : b.tmps.getD 10 undef = pv y := h.dep 3 _ 10 (by kernel_rfl) rfl rfl
        refine good_call (wanted_none rfl) rfl (enters Try.func42 (by kernel_rfl) rfl) ?_
        rw [show (#[Operand.tmp 8, Operand.tmp 10].map b.eval) = #[b.tmps.getD 8 undef, b.tmps.getD 10 undef] by simp [Act.eval], f8, f10]
        exact (hS.out _).mono fun e w'' ⟨he, hx⟩ => ⟨_, he, rfl, hx⟩
      · intro b w' h hE
        have hz0 := h.ext.size
        simp only [World.size_alloc] at hz0
        refine good_grow (w' := w'.alloc (.cells #[.int .u64 0, .int .u64 0, .int .u64 0, .int .u64 0, .int .i64 0] 67)) (v := .pointer (some ⟨w'.heap.size, 0, none⟩)) (wanted_none rfl) ?_ ⟨_, rfl, by omega, Ob.new w' _ _⟩ ((Ext.refl _).alloc _)
        simp [execOp, go_sem, Sem.run_bind, Sem.run_pure, Result.andThen_ok]
    · intro b w2 hX2 hd hz he' hf
      have e7 : b.tmps.getD 7 undef = wv x := hf 0 _ 7 (by omega) rfl rfl
      have e8 : b.tmps.getD 8 undef = pv x := hf 1 _ 8 (by omega) rfl rfl
      have e9 : b.tmps.getD 9 undef = wv y := hf 2 _ 9 (by omega) rfl rfl
      have e10 : b.tmps.getD 10 undef = pv y := hf 3 _ 10 (by omega) rfl rfl
      have e11 : b.tmps.getD 11 undef = pv (x + y) := hf 4 _ 11 (by omega) rfl rfl
      have f6 : ∃ B, (b.tmps.getD 6 undef) = .pointer (some ⟨B, 0, none⟩) ∧ w.heap.size + 3 ≤ B ∧ Ob w2 B 67 [.int .u64 0, .int .u64 0, .int .u64 0, .int .u64 0, .int .i64 0] := hf 5 _ 6 (by omega) rfl rfl
      have e := frame_puts hd hz he'
      obtain ⟨X, hXx⟩ : ∃ X : Nat → Value, ∀ d, b.tmps.getD d undef = X d := ⟨_, fun _ => rfl⟩
      rw [hXx] at e7 e8 e9 e10 e11 f6
      obtain ⟨B, q6, hBl, oB⟩ := f6
      rw [show dstsOf _ = [7, 8, 9, 10, 11, 6] from rfl] at e
      simp only [List.foldl_cons, List.foldl_nil, hXx, Act.put, List.setIfInBounds_toArray, List.set_cons_succ, List.set_cons_zero] at e
      rw [e7, e8, e9, e10, e11, q6] at e
      clear hf he' hz hd hXx e7 e8 e9 e10 e11 q6
      subst e
      simp only [List.drop_succ_cons, List.drop_zero]
      have x0 := A2.out.ext hX2
      have lt2 := x0.lt
      have ltB := oB.lt
      haveI : In (w.heap.size + 1 + 1) w2 := ⟨lt2⟩
      haveI : In B w2 := ⟨ltB⟩
      have b0 := oB.cell 0 rfl
      have b1 := oB.cell 1 rfl
      have b2 := oB.cell 2 rfl
      have b3 := oB.cell 3 rfl
      have b4 := oB.cell 4 rfl
      have k0 := oB.free 0
      have k1 := oB.free 1
      have k2 := oB.free 2
      have k3 := oB.free 3
      have k4 := oB.free 4
      have r0 := x0.cell 0 rfl
      have r1 := x0.cell 1 rfl
      have q0 := x0.free 0
      have q1 := x0.free 1
      have hne : (w.heap.size + 1 + 1 = B) = False := eq_false (by omega)
      have hne2 : (B = w.heap.size + 1 + 1) = False := eq_false (by omega)
      have hX3 := hide (((((Ext.refl w).alloc (.cells #[.int .i64 (hiW x), .int .u64 (loW x)] 24)).alloc (.cells #[.int .i64 (hiW y), .int .u64 (loW y)] 24)).alloc (.cells #[.int .i64 0, .int .u64 0] 24)).trans hX2)
      replace oB := hide oB
      replace x0 := hide x0
      go_wp2_with (first | (go_at_call 44; (with_reducible refine seq_gw' (hF.out _) ?_); intro g1) | (go_at_call 44; (with_reducible refine seq_gw (hF.out _) ?_); intro g1) | (go_at_call 45; (with_reducible refine seq_gw' (hB.out _) ?_); intro g2) | (go_at_call 45; (with_reducible refine seq_gw (hB.out _) ?_); intro g2))
      first | go_returns | refine bodyPost_ret (by simp [results, Try.results12, go_sem, r0, r1]; try rfl) rfl ?_
      refine ⟨by first | rfl | simp, ?_⟩
      have hX4 := hX3.out
      repeat (first | exact Ext.refl _ | with_reducible assumption | refine ext_gw ?_ _ | refine Ext.setCell ?_ (by first | (simp; done) | (simp; omega)) _)
    
end Go.Proofs.Ythckegejbcagmaa
