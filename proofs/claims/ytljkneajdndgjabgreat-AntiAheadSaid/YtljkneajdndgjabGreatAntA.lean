/-
  A helper of ours: no claim of its own. Layer 32 (anti): is a row another one's partner, by the code and by the document's own steps.
-/
import Derived.Test.YtljkneajdndgjabGreatEvaG
import Derived.Recover
import Derived.Test.YtljkneajdndgjabGreatStepD
import Derived.Test.YtljkneajdndgjabGreatSchS
set_option linter.unusedVariables false
set_option linter.unusedSimpArgs false
namespace Go.Proofs.YtljkneajdndgjabGreat
open Go.RowKit
attribute [-go_sem] sliced
attribute [local go_sem] sliced_eq
attribute [local go_sem] GW.cell GW.frozen In.eq_true In.le_true In.ne In.ne' In.ne_add In.ne_add' In.lt_add Upto.le_true Upto.le_add Upto.lt_add
theorem anyErr_c (c : Int) (w : World) : (Instr.typeAssert (.iface 27 (.int .i64 c)) 20 27 true).run Tryz.prog w = .ok (.tuple #[.int .i64 c, .bool true]) w := by kernel_rfl
theorem anyErr_nil (w : World) : (Instr.typeAssert .nilIface 20 27 true).run Tryz.prog w = .ok (.tuple #[.int .i64 0, .bool false]) w := by kernel_rfl
set_option maxHeartbeats 4000000 in
set_option maxRecDepth 100000 in
theorem stop_idle (p q : Value) (w : World) :
    CallsD Tryz.prog 90 #[p, q] .returning w fun e u' w' => e = .returned (.tuple #[]) ∧ u' = .returning ∧ w' = w := by
  refine callsD_of_wpS Tryz.func90 rfl fun c₀ cs hu => ?_
  simp only [Tryz.ntmps90, List.size_toArray, List.length_cons, List.length_nil, Nat.reduceAdd, Nat.reduceSub, Array.replicate_succ, Array.replicate_zero, List.push_toArray, List.append_toArray, List.nil_append, List.cons_append]
  apply wpS_seq
  apply wpS_region
  simp [wpOpsS, go_sem, recoverD, hu, Exit.thenS, anyErr_nil]
  apply wpS_seq
  apply wpS_region
  simp [wpOpsS, go_sem, Exit.thenS]
  refine wpS_cond (t := false) (by simp [Act.eval]) ?_
  simp only [Bool.false_eq_true, if_false]
  refine wpS_of_wp (wp_skip ?_)
  cases c₀
  simp_all [bodyPostS, results, Tryz.results90]
set_option maxHeartbeats 4000000 in
set_option maxRecDepth 100000 in
theorem stop_panic (b b2 : Nat) (c : Int) (k0 k1 k2 z : Value) (hk : k0.oneCell' = true ∧ k1.oneCell' = true ∧ k2.oneCell' = true) (w : World) (h1 : Ob w b 53 [k0, k1, k2]) (h2 : Ob w b2 27 [z]) (hb : ¬ b = b2) :
    CallsD Tryz.prog 90 #[.pointer (some ⟨b, 0, none⟩), .pointer (some ⟨b2, 0, none⟩)] (.panicking [{ v := .iface 27 (.int .i64 c), recovered := false }]) w fun e u' w' => e = .returned (.tuple #[]) ∧ u' = .panicking [{ v := .iface 27 (.int .i64 c), recovered := true }] ∧
      ∃ w1, w' = (((w1.setCell ⟨b, 0, none⟩ (.int .i64 0)).setCell ⟨b, 1, none⟩ (.int .i64 0)).setCell ⟨b, 2, none⟩ (.string ⟨#[]⟩)).setCell ⟨b2, 0, none⟩ (.int .i64 c) ∧ w1 = w := by
  have c0 := h1.cell 0 rfl
  have c1 := h1.cell 1 rfl
  have c2 := h1.cell 2 rfl
  have f0 := h1.free 0
  have f1 := h1.free 1
  have f2 := h1.free 2
  have d0 := h2.cell 0 rfl
  have g0 := h2.free 0
  refine callsD_of_wpS Tryz.func90 rfl fun c₀ cs hu => ?_
  simp only [Tryz.ntmps90, List.size_toArray, List.length_cons, List.length_nil, Nat.reduceAdd, Nat.reduceSub, Array.replicate_succ, Array.replicate_zero, List.push_toArray, List.append_toArray, List.nil_append, List.cons_append]
  apply wpS_seq
  apply wpS_region
  simp [wpOpsS, go_sem, recoverD, hu, Exit.thenS, anyErr_c]
  apply wpS_seq
  apply wpS_region
  simp [wpOpsS, go_sem, Exit.thenS]
  refine wpS_cond (t := true) (by simp [Act.eval]) ?_
  simp only [if_true]
  apply wpS_region
  simp [wpOpsS, go_sem, c0, c1, c2, f0, f1, f2, d0, g0, hb, bodyPostS, results, Tryz.results90]
end Go.Proofs.YtljkneajdndgjabGreat
set_option linter.unusedVariables false
set_option linter.unusedSimpArgs false
namespace Go.Proofs.YtljkneajdndgjabGreat
open Go.RowKit
attribute [-go_sem] sliced
attribute [local go_sem] sliced_eq
attribute [local go_sem] GW.cell GW.frozen In.eq_true In.le_true In.ne In.ne' In.ne_add In.ne_add' In.lt_add Upto.le_true Upto.le_add Upto.lt_add
abbrev zV : List Value := [.int .i64 0, .int .i64 0, .string ⟨#[]⟩]
theorem res_obs {w : World} (g : GW ((w.alloc (.cells #[.int .i64 0, .int .i64 0, .string ⟨#[]⟩] 53)).alloc (.cells #[.int .i64 0] 27))) :
    Ext w g.val ∧ Ob g.val w.heap.size 53 zV ∧ Ob g.val (w.heap.size + 1) 27 [.int .i64 0] := by
  refine ⟨(((Ext.refl w).alloc _).alloc _).trans g.grown, ((Ob.new w _ zV).alloc _).ext g.grown, ?_⟩
  have := (Ob.new (w.alloc (.cells #[.int .i64 0, .int .i64 0, .string ⟨#[]⟩] 53)) 27 [.int .i64 0]).ext g.grown
  rwa [World.size_alloc] at this
set_option maxHeartbeats 4000000 in
set_option maxRecDepth 100000 in
theorem eval_bad1 (l : List Vl) (v rvv : Value) (w : World) (h : Rw w [] v l) (hz : formE l ≠ 0) :
    Calls Tryz.prog 48 #[v, rvv] w fun e w' => e = .returned (.tuple #[val 0 0 ⟨#[]⟩, .int .i64 (formE l)]) ∧ Ext w w' := by
  have hf := hide (fun w' (hX : Ext w w') => form_c l v w' (Sl.ext h hX))
  clear h
  generalize formE l = F at *
  have hz' : (F != 0) = true := by simpa using hz
  go_enter_defers Tryz.func48, Tryz.ntmps48
  go_wp2_with (go_at_call 32; (with_reducible refine seq_gw (hf.out _ (((Ext.refl w).alloc _).alloc _)) ?_); intro g; obtain ⟨hX, o1, o2⟩ := res_obs g; have c0 := o1.cell 0 rfl; have c1 := o1.cell 1 rfl; have c2 := o1.cell 2 rfl; have f0 := o1.free 0; have f1 := o1.free 1; have f2 := o1.free 2; have d0 := o2.cell 0 rfl; have e0 := o2.free 0; haveI : In w.heap.size g.val := ⟨o1.lt⟩; haveI : In (w.heap.size + 1) g.val := ⟨o2.lt⟩)
  refine ⟨_, (by simp [results, Tryz.results48, go_sem, c0, c1, c2, d0]), rfl, ?_⟩
  exact (((hX.setCell (p := ⟨w.heap.size, 0, none⟩) (Nat.le_refl _) _).setCell (p := ⟨w.heap.size, 1, none⟩) (Nat.le_refl _) _).setCell (p := ⟨w.heap.size, 2, none⟩) (Nat.le_refl _) _).setCell (p := ⟨w.heap.size + 1, 0, none⟩) (Nat.le_add_right _ _) _
set_option maxHeartbeats 4000000 in
set_option maxRecDepth 100000 in
theorem eval_bad2 (l r : List Vl) (v rvv : Value) (w : World) (h : Rw w [] v l) (hrr : Rw w [] rvv r) (hz : formE l = 0) (hmr : mayR r = false) :
    Calls Tryz.prog 48 #[v, rvv] w fun e w' => e = .returned (.tuple #[val 0 0 ⟨#[]⟩, .int .i64 2]) ∧ Ext w w' := by
  have hf := hide (fun w' (hX : Ext w w') => form_c l v w' (Sl.ext h hX))
  have hm := hide (fun w' (hX : Ext w w') => rowMay_c r rvv w' (Sl.ext hrr hX))
  clear h hrr
  rw [hz] at hf
  rw [hmr] at hm
  clear hz hmr
  go_enter_defers Tryz.func48, Tryz.ntmps48
  go_wp2_with (first | (go_at_call 32; (with_reducible refine seq_gw (hf.out _ (((Ext.refl w).alloc _).alloc _)) ?_); intro g; obtain ⟨hX, o1, o2⟩ := res_obs g; haveI : In w.heap.size g.val := ⟨o1.lt⟩; haveI : In (w.heap.size + 1) g.val := ⟨o2.lt⟩) | (go_at_call 53; (with_reducible refine seq_gw (hm.out _ hX) ?_); intro g2; replace hX := hX.trans g2.grown; replace o1 := o1.ext g2.grown; replace o2 := o2.ext g2.grown; have c0 := o1.cell 0 rfl; have c1 := o1.cell 1 rfl; have c2 := o1.cell 2 rfl; have f0 := o1.free 0; have f1 := o1.free 1; have f2 := o1.free 2; have d0 := o2.cell 0 rfl; have e0 := o2.free 0))
  refine ⟨_, (by simp [results, Tryz.results48, go_sem, c0, c1, c2, d0]), rfl, ?_⟩
  exact (((hX.setCell (p := ⟨w.heap.size, 0, none⟩) (Nat.le_refl _) _).setCell (p := ⟨w.heap.size, 1, none⟩) (Nat.le_refl _) _).setCell (p := ⟨w.heap.size, 2, none⟩) (Nat.le_refl _) _).setCell (p := ⟨w.heap.size + 1, 0, none⟩) (Nat.le_add_right _ _) _
set_option maxHeartbeats 4000000 in
set_option maxRecDepth 100000 in
theorem eval_stop (l r : List Vl) (hr : ∀ v ∈ r, fine v) (hi : ∀ o ∈ l, inW o) (v rvv : Value) (w : World) (h : Rw w [] v l) (hrr : Rw w [] rvv r) (hz : formE l = 0) (hmr : mayR r = true) (z : Int) (hR : runX r l = .error z) :
    Calls Tryz.prog 48 #[v, rvv] w fun e w' => e = .returned (.tuple #[val 0 0 ⟨#[]⟩, .int .i64 z]) ∧ Ext w w' := by
  have hf := hide (fun w' (hX : Ext w w') => form_c l v w' (Sl.ext h hX))
  have hm := hide (fun w' (hX : Ext w w') => rowMay_c r rvv w' (Sl.ext hrr hX))
  have hrun : Hid (∀ w', Ext w w' → Calls Tryz.prog 91 #[v, rvv] w' fun e w'' => e = pnc z ∧ Ext w' w'') := by
    intro w' hX
    obtain ⟨t, hg, rfl, h64⟩ := formE_tree hz
    have := run_c r hr t.flat h64 (fE_of hg) hi v rvv w' (Sl.ext h hX) (Sl.ext hrr hX)
    rw [hR] at this
    exact this
  clear h hrr hR hi hr
  rw [hz] at hf
  rw [hmr] at hm
  clear hz hmr
  go_enter_defers Tryz.func48, Tryz.ntmps48
  go_wp2_with (first | (go_at_call 32; (with_reducible refine seq_gw (hf.out _ (((Ext.refl w).alloc _).alloc _)) ?_); intro g; obtain ⟨hX, o1, o2⟩ := res_obs g; haveI : In w.heap.size g.val := ⟨o1.lt⟩; haveI : In (w.heap.size + 1) g.val := ⟨o2.lt⟩) | (go_at_call 53; (with_reducible refine seq_gw (hm.out _ hX) ?_); intro g2; replace hX := hX.trans g2.grown; replace o1 := o1.ext g2.grown; replace o2 := o2.ext g2.grown; skip) | (go_at_call 91; (with_reducible refine seq_pn (hrun.out _ hX) ?_); intro g3; replace hX := hX.trans g3.grown; replace o1 := o1.ext g3.grown; replace o2 := o2.ext g3.grown))
  refine leaves_cons (f := 90) (args := #[.pointer (some ⟨w.heap.size, 0, none⟩), .pointer (some ⟨w.heap.size + 1, 0, none⟩)]) (by simp) (by simp [go_sem]) ?_
  refine (stop_panic w.heap.size (w.heap.size + 1) z _ _ _ _ ⟨rfl, rfl, rfl⟩ _ o1 o2 (by omega)).mono ?_
  rintro e u' w'' ⟨rfl, rfl, w1, rfl, rfl⟩
  have c0 := o1.cell 0 rfl
  have c1 := o1.cell 1 rfl
  have c2 := o1.cell 2 rfl
  have d0 := o2.cell 0 rfl
  refine ⟨_, (by simp [results, Tryz.results48, go_sem, c0, c1, c2, d0]), rfl, ?_⟩
  exact (((hX.setCell (p := ⟨w.heap.size, 0, none⟩) (Nat.le_refl _) _).setCell (p := ⟨w.heap.size, 1, none⟩) (Nat.le_refl _) _).setCell (p := ⟨w.heap.size, 2, none⟩) (Nat.le_refl _) _).setCell (p := ⟨w.heap.size + 1, 0, none⟩) (Nat.le_add_right _ _) _
set_option maxHeartbeats 4000000 in
set_option maxRecDepth 100000 in
theorem eval_ok (l r : List Vl) (hr : ∀ v ∈ r, fine v) (hi : ∀ o ∈ l, inW o) (v rvv : Value) (w : World) (h : Rw w [] v l) (hrr : Rw w [] rvv r) (hz : formE l = 0) (hmr : mayR r = true) (u : Vl) (hR : runX r l = .ok u) (hu : fine u) :
    Calls Tryz.prog 48 #[v, rvv] w fun e w' => e = .returned (.tuple #[val u.1 u.2.1 u.2.2, .int .i64 0]) ∧ Ext w w' := by
  have hf := hide (fun w' (hX : Ext w w') => form_c l v w' (Sl.ext h hX))
  have hm := hide (fun w' (hX : Ext w w') => rowMay_c r rvv w' (Sl.ext hrr hX))
  have hrun : Hid (∀ w', Ext w w' → Calls Tryz.prog 91 #[v, rvv] w' fun e w'' => e = .returned (rv u) ∧ Ext w' w'') := by
    intro w' hX
    obtain ⟨t, hg, rfl, h64⟩ := formE_tree hz
    have := run_c r hr t.flat h64 (fE_of hg) hi v rvv w' (Sl.ext h hX) (Sl.ext hrr hX)
    rw [hR] at this
    exact this
  clear h hrr hR hi hr
  rw [hz] at hf
  rw [hmr] at hm
  clear hz hmr
  rcases fine_cases hu with ⟨n, rfl, hn⟩ | ⟨s, rfl, hs⟩
  · replace hrun := hide (show ∀ w', Ext w w' → Calls Tryz.prog 91 #[v, rvv] w' fun e w'' => e = .returned (rN n) ∧ Ext w' w'' from hrun.out)
    clear hu
    go_enter_defers Tryz.func48, Tryz.ntmps48
    go_wp2_with (first | (go_at_call 32; (with_reducible refine seq_gw (hf.out _ (((Ext.refl w).alloc _).alloc _)) ?_); intro g; obtain ⟨hX, o1, o2⟩ := res_obs g; haveI : In w.heap.size g.val := ⟨o1.lt⟩; haveI : In (w.heap.size + 1) g.val := ⟨o2.lt⟩) | (go_at_call 53; (with_reducible refine seq_gw (hm.out _ hX) ?_); intro g2; replace hX := hX.trans g2.grown; replace o1 := o1.ext g2.grown; replace o2 := o2.ext g2.grown; skip) | (go_at_call 91; (with_reducible refine seq_gw (hrun.out _ hX) ?_); intro g3; replace hX := hX.trans g3.grown; replace o1 := o1.ext g3.grown; replace o2 := o2.ext g3.grown) | (go_at_call 225; (with_reducible refine seq_gw (nval_c _ _) ?_); intro g4; replace hX := hX.trans g4.grown; replace o1 := o1.ext g4.grown; replace o2 := o2.ext g4.grown; have c0 := o1.cell 0 rfl; have c1 := o1.cell 1 rfl; have c2 := o1.cell 2 rfl; have f0 := o1.free 0; have f1 := o1.free 1; have f2 := o1.free 2; have d0 := o2.cell 0 rfl; have e0 := o2.free 0))
    refine leaves_cons (f := 90) (args := #[.pointer (some ⟨w.heap.size, 0, none⟩), .pointer (some ⟨w.heap.size + 1, 0, none⟩)]) (by simp) (by simp [go_sem]) ?_
    refine (stop_idle _ _ _).mono ?_
    rintro e u' w'' ⟨rfl, rfl, rfl⟩
    refine ⟨_, (by simp [results, Tryz.results48, go_sem, c0, c1, c2, d0]), rfl, ?_⟩
    exact (((hX.setCell (p := ⟨w.heap.size, 0, none⟩) (Nat.le_refl _) _).setCell (p := ⟨w.heap.size, 1, none⟩) (Nat.le_refl _) _).setCell (p := ⟨w.heap.size, 2, none⟩) (Nat.le_refl _) _).setCell (p := ⟨w.heap.size + 1, 0, none⟩) (Nat.le_add_right _ _) _
  · replace hrun := hide (show ∀ w', Ext w w' → Calls Tryz.prog 91 #[v, rvv] w' fun e w'' => e = .returned (rT s) ∧ Ext w' w'' from hrun.out)
    clear hu
    go_enter_defers Tryz.func48, Tryz.ntmps48
    go_wp2_with (first | (go_at_call 32; (with_reducible refine seq_gw (hf.out _ (((Ext.refl w).alloc _).alloc _)) ?_); intro g; obtain ⟨hX, o1, o2⟩ := res_obs g; haveI : In w.heap.size g.val := ⟨o1.lt⟩; haveI : In (w.heap.size + 1) g.val := ⟨o2.lt⟩) | (go_at_call 53; (with_reducible refine seq_gw (hm.out _ hX) ?_); intro g2; replace hX := hX.trans g2.grown; replace o1 := o1.ext g2.grown; replace o2 := o2.ext g2.grown; skip) | (go_at_call 91; (with_reducible refine seq_gw (hrun.out _ hX) ?_); intro g3; replace hX := hX.trans g3.grown; replace o1 := o1.ext g3.grown; replace o2 := o2.ext g3.grown) | (go_at_call 228; (with_reducible refine seq_gw (tval_c _ hs _) ?_); intro g4; replace hX := hX.trans g4.grown; replace o1 := o1.ext g4.grown; replace o2 := o2.ext g4.grown; have c0 := o1.cell 0 rfl; have c1 := o1.cell 1 rfl; have c2 := o1.cell 2 rfl; have f0 := o1.free 0; have f1 := o1.free 1; have f2 := o1.free 2; have d0 := o2.cell 0 rfl; have e0 := o2.free 0))
    refine leaves_cons (f := 90) (args := #[.pointer (some ⟨w.heap.size, 0, none⟩), .pointer (some ⟨w.heap.size + 1, 0, none⟩)]) (by simp) (by simp [go_sem]) ?_
    refine (stop_idle _ _ _).mono ?_
    rintro e u' w'' ⟨rfl, rfl, rfl⟩
    refine ⟨_, (by simp [results, Tryz.results48, go_sem, c0, c1, c2, d0]), rfl, ?_⟩
    exact (((hX.setCell (p := ⟨w.heap.size, 0, none⟩) (Nat.le_refl _) _).setCell (p := ⟨w.heap.size, 1, none⟩) (Nat.le_refl _) _).setCell (p := ⟨w.heap.size, 2, none⟩) (Nat.le_refl _) _).setCell (p := ⟨w.heap.size + 1, 0, none⟩) (Nat.le_add_right _ _) _
end Go.Proofs.YtljkneajdndgjabGreat
set_option linter.unusedVariables false
set_option linter.unusedSimpArgs false
namespace Go.Proofs.YtljkneajdndgjabGreat
open Go.RowKit
attribute [-go_sem] sliced
attribute [local go_sem] sliced_eq
attribute [local go_sem] GW.cell GW.frozen In.eq_true In.le_true In.ne In.ne' In.ne_add In.ne_add' In.lt_add Upto.le_true Upto.le_add Upto.lt_add
/-- An expression's result for a row: the value, and the error. -/
def evX (l r : List Vl) : Vl × Int :=
  if formE l = 0 then (if mayR r then (match runX r l with
    | .ok u => (u, 0)
    | .error z => ((0, 0, ⟨#[]⟩), z)) else ((0, 0, ⟨#[]⟩), 2)) else ((0, 0, ⟨#[]⟩), formE l)
theorem runX_fine {l r : List Vl} {u : Vl} (hr : ∀ v ∈ r, fine v) (hi : ∀ o ∈ l, inW o) (hz : formE l = 0) (h : runX r l = .ok u) : fine u := by
  obtain ⟨t, hg, rfl, -⟩ := formE_tree hz
  rw [runX_tree hg] at h
  exact evT_fine hr t hg (Tr.inw_of t hi) u h
theorem eval_c (l r : List Vl) (hri : ∀ v ∈ r, inW v) (hi : ∀ o ∈ l, inW o) (v rvv : Value) (w : World) (h : Rw w [] v l) (hrr : Rw w [] rvv r) :
    Calls Tryz.prog 48 #[v, rvv] w fun e w' => e = .returned (.tuple #[val (evX l r).1.1 (evX l r).1.2.1 (evX l r).1.2.2, .int .i64 (evX l r).2]) ∧ Ext w w' := by
  unfold evX
  by_cases hz : formE l = 0
  · rw [if_pos hz]
    cases hm : mayR r with
    | false => exact eval_bad2 l r v rvv w h hrr hz hm
    | true =>
      have hr : ∀ v ∈ r, fine v := fun v hv => ⟨(mayR_iff.1 hm).2 v hv, hri v hv⟩
      cases hR : runX r l with
      | error z => exact eval_stop l r hr hi v rvv w h hrr hz hm z hR
      | ok u => exact eval_ok l r hr hi v rvv w h hrr hz hm u hR (runX_fine hr hi hz hR)
  · rw [if_neg hz]
    exact eval_bad1 l v rvv w h hz
def hoX (l r : List Vl) : Bool × Int :=
  if (evX l r).2 = 0 then (if (evX l r).1.1 = 1 then ((evX l r).1.2.1 != 0, 0) else (false, 12)) else (false, (evX l r).2)
set_option maxHeartbeats 4000000 in
set_option maxRecDepth 100000 in
theorem holds_c (l r : List Vl) (hri : ∀ v ∈ r, inW v) (hi : ∀ o ∈ l, inW o) (v rvv : Value) (w : World) (h : Rw w [] v l) (hrr : Rw w [] rvv r) :
    Calls Tryz.prog 20 #[v, rvv] w fun e w' => e = .returned (.tuple #[.bool (hoX l r).1, .int .i64 (hoX l r).2]) ∧ Ext w w' := by
  have hc := hide (fun w' (hX : Ext w w') => eval_c l r hri hi v rvv w' (Sl.ext h hX) (Sl.ext hrr hX))
  clear h hrr hi hri
  unfold hoX
  obtain ⟨⟨⟨k, n, s⟩, z⟩, he⟩ : ∃ x, x = evX l r := ⟨_, rfl⟩
  rw [← he] at hc ⊢
  clear he
  replace hc := hide (show ∀ w', Ext w w' → Calls Tryz.prog 48 #[v, rvv] w' fun e w'' => e = .returned (.tuple #[val k n s, .int .i64 z]) ∧ Ext w' w'' from hc.out)
  dsimp only
  by_cases hz : z = 0
  · subst hz
    by_cases hk : k = 1
    · subst hk
      go_enter Tryz.func20, Tryz.ntmps20
      go_wp2_with (go_at_call 48; (with_reducible refine seq_gw (hc.out _ (by repeat (first | exact Ext.refl _ | refine Ext.alloc ?_ _))) ?_); intro g)
      go_returns
      refine ⟨?_, ?_⟩
      · simp
      · repeat (first | exact Ext.refl _ | refine Ext.drewN ?_ _ | refine Ext.alloc ?_ _ | refine Ext.trans ?_ g.grown | refine Ext.setCell ?_ (by simp) _)
    · have hk' : (k != 1) = true := by simpa using hk
      go_enter Tryz.func20, Tryz.ntmps20
      go_wp2_with (go_at_call 48; (with_reducible refine seq_gw (hc.out _ (by repeat (first | exact Ext.refl _ | refine Ext.alloc ?_ _))) ?_); intro g)
      go_returns
      refine ⟨?_, ?_⟩
      · simp [hk]
      · repeat (first | exact Ext.refl _ | refine Ext.drewN ?_ _ | refine Ext.alloc ?_ _ | refine Ext.trans ?_ g.grown | refine Ext.setCell ?_ (by simp) _)
  · have hz' : (z != 0) = true := by simpa using hz
    go_enter Tryz.func20, Tryz.ntmps20
    go_wp2_with (go_at_call 48; (with_reducible refine seq_gw (hc.out _ (by repeat (first | exact Ext.refl _ | refine Ext.alloc ?_ _))) ?_); intro g)
    go_returns
    refine ⟨?_, ?_⟩
    · simp [hz]
    · repeat (first | exact Ext.refl _ | refine Ext.drewN ?_ _ | refine Ext.alloc ?_ _ | refine Ext.trans ?_ g.grown | refine Ext.setCell ?_ (by simp) _)
end Go.Proofs.YtljkneajdndgjabGreat
set_option linter.unusedVariables false
set_option linter.unusedSimpArgs false
namespace Go.Proofs.YtljkneajdndgjabGreat
open Go.RowKit
attribute [local go_sem] GW.cell GW.frozen In.eq_true In.le_true In.ne In.ne' In.ne_add In.ne_add' In.lt_add Upto.le_true Upto.le_add Upto.lt_add
/-- Is a row a partner, and what is wrong. -/
def isX (r : List Vl) (f : List Jp) (o : List Vl) (g : List Jp) (x : List Vl) : Bool × Int :=
  if twE mulO f g = 0 then (if twR mulO f g = [] then (false, 0) else if joinE r o = 0 then hoX x (joinV r o) else (false, joinE r o)) else (false, twE mulO f g)
theorem joinV_in {r o : List Vl} (hr : ∀ v ∈ r, inW v) (ho : ∀ v ∈ o, inW v) : ∀ v ∈ joinV r o, inW v := by
  unfold joinV
  split
  · intro v hv
    rcases List.mem_append.1 hv with h | h
    · exact hr v h
    · exact ho v h
  · simp
set_option maxHeartbeats 4000000 in
set_option maxRecDepth 100000 in
theorem isPartner_c (r o x : List Vl) (f g : List Jp) (hri : ∀ v ∈ r, inW v) (hoi : ∀ v ∈ o, inW v) (hi : ∀ v ∈ x, inW v) (vr vf vo vg vx : Value) (w : World) (hr : Rw w [] vr r) (hf : Jw w [] vf f) (ho : Rw w [] vo o) (hg : Jw w [] vg g) (hx : Rw w [] vx x) :
    Calls Tryz.prog 101 #[vr, vf, vo, vg, vx] w fun e w' => e = .returned (.tuple #[.bool (isX r f o g x).1, .int .i64 (isX r f o g x).2]) ∧ Ext w w' := by
  have hm := hide (stepMul_c f g vf vg w hf hg)
  have hj := hide (fun w' (hX : Ext w w') => rowJoin_c r o vr vo w' (Sl.ext hr hX) (Sl.ext ho hX))
  have hh := hide (fun u w' (hX : Ext w w') (hu : Rw w' [] u (joinV r o)) => holds_c x (joinV r o) (joinV_in hri hoi) hi vx u w' (Sl.ext hx hX) hu)
  clear hr hf ho hg hx hri hoi hi
  unfold isX
  obtain ⟨E, hE⟩ : ∃ E, E = twE mulO f g := ⟨_, rfl⟩
  obtain ⟨R, hR⟩ : ∃ R, R = twR mulO f g := ⟨_, rfl⟩
  obtain ⟨F, hF⟩ : ∃ F, F = joinE r o := ⟨_, rfl⟩
  obtain ⟨V, hV⟩ : ∃ V, V = joinV r o := ⟨_, rfl⟩
  obtain ⟨⟨B, G⟩, hH⟩ : ∃ Y, Y = hoX x V := ⟨_, rfl⟩
  rw [← hE, ← hR, ← hF, ← hV, ← hH]
  rw [← hE, ← hR] at hm
  rw [← hF, ← hV] at hj
  rw [← hV] at hh
  rw [← hH] at hh
  clear hE hR hF hV hH
  by_cases hz : E = 0
  case neg =>
    rw [if_neg hz]
    have hz' : (E != 0) = true := by simpa using hz
    clear hz hj hh
    go_enter Tryz.func101, Tryz.ntmps101
    go_wp2_with (go_at_call 70; refine hm.out.mono ?_; rintro ee w1 ⟨v1, rfl, ho1, hx1⟩; obtain ⟨A1, c1, rfl⟩ := own_form ho1)
    go_returns
    exact ⟨rfl, hx1⟩
  subst hz
  rw [if_pos rfl]
  by_cases hn : R = []
  case pos =>
    subst hn
    rw [if_pos rfl]
    clear hj hh
    go_enter Tryz.func101, Tryz.ntmps101
    go_wp2_with (go_at_call 70; refine hm.out.mono ?_; rintro ee w1 ⟨v1, rfl, ho1, hx1⟩; obtain ⟨A1, c1, rfl⟩ := own_form ho1)
    go_returns
    exact ⟨rfl, hx1⟩
  rw [if_neg hn]
  have hRl : R.length ≠ 0 := fun h => hn (List.eq_nil_of_length_eq_zero h)
  obtain ⟨n, hn2⟩ : ∃ n, R.length = n + 1 := ⟨R.length - 1, by omega⟩
  have hnI : ((R.length : Int) == 0) = false := by simpa using (show ¬ ((R.length : Int) = 0) by omega)
  clear hn hRl hn2
  by_cases hz : F = 0
  case neg =>
    rw [if_neg hz]
    have hz' : (F != 0) = true := by simpa using hz
    clear hz hh
    go_enter Tryz.func101, Tryz.ntmps101
    go_wp2_with (first | (go_at_call 70; refine hm.out.mono ?_; rintro ee w1 ⟨v1, rfl, ho1, hx1⟩; obtain ⟨A1, c1, rfl⟩ := own_form ho1; have hx1' := hide hx1; clear hx1 ho1) | (go_at_call 71; refine (hj.out _ hx1'.out).mono ?_; rintro ee w2 ⟨v2, rfl, ho2, hx2⟩))
    go_returns
    exact ⟨rfl, hx1'.out.trans hx2⟩
  subst hz
  rw [if_pos rfl]
  go_enter Tryz.func101, Tryz.ntmps101
  go_wp2_with (first | (go_at_call 70; refine hm.out.mono ?_; rintro ee w1 ⟨v1, rfl, ho1, hx1⟩; obtain ⟨A1, c1, rfl⟩ := own_form ho1; have hx1' := hide hx1; clear hx1 ho1) | (go_at_call 71; refine (hj.out _ hx1'.out).mono ?_; rintro ee w2 ⟨v2, rfl, ho2, hx2⟩; have hx2' := hide (hx1'.out.trans hx2); have ho2' := hide ho2; clear hx2 ho2) | (go_at_call 20; (with_reducible refine seq_gw (hh.out _ _ hx2'.out (Sl.own ho2'.out (by simp))) ?_); intro g3))
  go_returns
  exact ⟨rfl, hx2'.out.trans g3.grown⟩
end Go.Proofs.YtljkneajdndgjabGreat
