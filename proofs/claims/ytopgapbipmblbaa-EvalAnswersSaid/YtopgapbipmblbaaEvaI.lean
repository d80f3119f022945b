/-
  A helper of ours: no claim of its own. Layer 18 (eval): Eval by the code.
-/
import Derived.Test.YtopgapbipmblbaaEvaH
set_option linter.unusedVariables false
set_option linter.unusedSimpArgs false
namespace Go.Proofs.Ytopgapbipmblbaa
open Go.RowKit
attribute [-go_sem] sliced
attribute [local go_sem] sliced_eq
attribute [local go_sem] GW.cell GW.frozen In.eq_true In.le_true In.ne In.ne' In.ne_add In.ne_add' In.lt_add Upto.le_true Upto.le_add Upto.lt_add
theorem mkFn (fn : Fn) (first cap : Array Value) (w : World) : (Instr.makeFunc fn first cap).run Try.prog w = .ok (.func fn first cap) w := rfl
abbrev zV : List Value := [.int .i64 0, .int .i64 0, .string ⟨#[]⟩]
theorem res_obs {w : World} (g : GW ((w.alloc (.cells #[.int .i64 0, .int .i64 0, .string ⟨#[]⟩] 40)).alloc (.cells #[.int .i64 0] 27))) :
    Ext w g.val ∧ Ob g.val w.heap.size 40 zV ∧ Ob g.val (w.heap.size + 1) 27 [.int .i64 0] := by
  refine ⟨(((Ext.refl w).alloc _).alloc _).trans g.grown, ((Ob.new w _ zV).alloc _).ext g.grown, ?_⟩
  have := (Ob.new (w.alloc (.cells #[.int .i64 0, .int .i64 0, .string ⟨#[]⟩] 40)) 27 [.int .i64 0]).ext g.grown
  rwa [World.size_alloc] at this
set_option maxHeartbeats 4000000 in
set_option maxRecDepth 100000 in
theorem eval_bad1 (l : List Vl) (v rvv : Value) (w : World) (h : Rw w [] v l) (hz : formE l ≠ 0) :
    Calls Try.prog 16 #[v, rvv] w fun e w' => e = .returned (.tuple #[val 0 0 ⟨#[]⟩, .int .i64 (formE l)]) ∧ Ext w w' := by
  have hf := hide (fun w' (hX : Ext w w') => form_c l v w' (Sl.ext h hX))
  clear h
  generalize formE l = F at *
  have hz' : (F != 0) = true := by simpa using hz
  go_enter_defers Try.func16, Try.ntmps16
  go_wp2_with (go_at_call 11; (with_reducible refine seq_gw (hf.out _ (((Ext.refl w).alloc _).alloc _)) ?_); intro g; obtain ⟨hX, o1, o2⟩ := res_obs g; have c0 := o1.cell 0 rfl; have c1 := o1.cell 1 rfl; have c2 := o1.cell 2 rfl; have f0 := o1.free 0; have f1 := o1.free 1; have f2 := o1.free 2; have d0 := o2.cell 0 rfl; have e0 := o2.free 0; haveI : In w.heap.size g.val := ⟨o1.lt⟩; haveI : In (w.heap.size + 1) g.val := ⟨o2.lt⟩)
  refine ⟨_, (by simp [results, Try.results16, go_sem, c0, c1, c2, d0]), rfl, ?_⟩
  exact (((hX.setCell (p := ⟨w.heap.size, 0, none⟩) (Nat.le_refl _) _).setCell (p := ⟨w.heap.size, 1, none⟩) (Nat.le_refl _) _).setCell (p := ⟨w.heap.size, 2, none⟩) (Nat.le_refl _) _).setCell (p := ⟨w.heap.size + 1, 0, none⟩) (Nat.le_add_right _ _) _
set_option maxHeartbeats 4000000 in
set_option maxRecDepth 100000 in
theorem eval_bad2 (l r : List Vl) (v rvv : Value) (w : World) (h : Rw w [] v l) (hrr : Rw w [] rvv r) (hz : formE l = 0) (hmr : mayR r = false) :
    Calls Try.prog 16 #[v, rvv] w fun e w' => e = .returned (.tuple #[val 0 0 ⟨#[]⟩, .int .i64 2]) ∧ Ext w w' := by
  have hf := hide (fun w' (hX : Ext w w') => form_c l v w' (Sl.ext h hX))
  have hm := hide (fun w' (hX : Ext w w') => rowMay_c r rvv w' (Sl.ext hrr hX))
  clear h hrr
  rw [hz] at hf
  rw [hmr] at hm
  clear hz hmr
  go_enter_defers Try.func16, Try.ntmps16
  go_wp2_with (first | (go_at_call 11; (with_reducible refine seq_gw (hf.out _ (((Ext.refl w).alloc _).alloc _)) ?_); intro g; obtain ⟨hX, o1, o2⟩ := res_obs g; haveI : In w.heap.size g.val := ⟨o1.lt⟩; haveI : In (w.heap.size + 1) g.val := ⟨o2.lt⟩) | (go_at_call 36; (with_reducible refine seq_gw (hm.out _ hX) ?_); intro g2; replace hX := hX.trans g2.grown; replace o1 := o1.ext g2.grown; replace o2 := o2.ext g2.grown; have c0 := o1.cell 0 rfl; have c1 := o1.cell 1 rfl; have c2 := o1.cell 2 rfl; have f0 := o1.free 0; have f1 := o1.free 1; have f2 := o1.free 2; have d0 := o2.cell 0 rfl; have e0 := o2.free 0))
  refine ⟨_, (by simp [results, Try.results16, go_sem, c0, c1, c2, d0]), rfl, ?_⟩
  exact (((hX.setCell (p := ⟨w.heap.size, 0, none⟩) (Nat.le_refl _) _).setCell (p := ⟨w.heap.size, 1, none⟩) (Nat.le_refl _) _).setCell (p := ⟨w.heap.size, 2, none⟩) (Nat.le_refl _) _).setCell (p := ⟨w.heap.size + 1, 0, none⟩) (Nat.le_add_right _ _) _
set_option maxHeartbeats 4000000 in
set_option maxRecDepth 100000 in
theorem eval_stop (l r : List Vl) (hr : ∀ v ∈ r, fine v) (hi : ∀ o ∈ l, inW o) (v rvv : Value) (w : World) (h : Rw w [] v l) (hrr : Rw w [] rvv r) (hz : formE l = 0) (hmr : mayR r = true) (z : Int) (hR : runX r l = .error z) :
    Calls Try.prog 16 #[v, rvv] w fun e w' => e = .returned (.tuple #[val 0 0 ⟨#[]⟩, .int .i64 z]) ∧ Ext w w' := by
  have hf := hide (fun w' (hX : Ext w w') => form_c l v w' (Sl.ext h hX))
  have hm := hide (fun w' (hX : Ext w w') => rowMay_c r rvv w' (Sl.ext hrr hX))
  have hrun : Hid (∀ w', Ext w w' → Calls Try.prog 38 #[v, rvv] w' fun e w'' => e = pnc z ∧ Ext w' w'') := by
    intro w' hX
    obtain ⟨t, hg, rfl, h64⟩ := formE_tree hz
    have := run_c r hr t.flat h64 (fE_of hg) hi v rvv w' (Sl.ext h hX) (Sl.ext hrr hX)
    rw [hR] at this
    exact this
  clear h hrr hR hi hr
  rw [hz] at hf
  rw [hmr] at hm
  clear hz hmr
  go_enter_defers Try.func16, Try.ntmps16
  go_wp2_with (first | (go_at_call 11; (with_reducible refine seq_gw (hf.out _ (((Ext.refl w).alloc _).alloc _)) ?_); intro g; obtain ⟨hX, o1, o2⟩ := res_obs g; haveI : In w.heap.size g.val := ⟨o1.lt⟩; haveI : In (w.heap.size + 1) g.val := ⟨o2.lt⟩) | (go_at_call 36; (with_reducible refine seq_gw (hm.out _ hX) ?_); intro g2; replace hX := hX.trans g2.grown; replace o1 := o1.ext g2.grown; replace o2 := o2.ext g2.grown; skip) | (go_at_call 38; (with_reducible refine seq_pn (hrun.out _ hX) ?_); intro g3; replace hX := hX.trans g3.grown; replace o1 := o1.ext g3.grown; replace o2 := o2.ext g3.grown))
  refine leaves_cons (f := 37) (args := #[.pointer (some ⟨w.heap.size, 0, none⟩), .pointer (some ⟨w.heap.size + 1, 0, none⟩)]) (by simp) (by simp [go_sem]) ?_
  refine (stop_panic w.heap.size (w.heap.size + 1) z _ _ _ _ ⟨rfl, rfl, rfl⟩ _ o1 o2 (by omega)).mono ?_
  rintro e u' w'' ⟨rfl, rfl, w1, rfl, rfl⟩
  have c0 := o1.cell 0 rfl
  have c1 := o1.cell 1 rfl
  have c2 := o1.cell 2 rfl
  have d0 := o2.cell 0 rfl
  refine ⟨_, (by simp [results, Try.results16, go_sem, c0, c1, c2, d0]), rfl, ?_⟩
  exact (((hX.setCell (p := ⟨w.heap.size, 0, none⟩) (Nat.le_refl _) _).setCell (p := ⟨w.heap.size, 1, none⟩) (Nat.le_refl _) _).setCell (p := ⟨w.heap.size, 2, none⟩) (Nat.le_refl _) _).setCell (p := ⟨w.heap.size + 1, 0, none⟩) (Nat.le_add_right _ _) _
set_option maxHeartbeats 4000000 in
set_option maxRecDepth 100000 in
theorem eval_ok (l r : List Vl) (hr : ∀ v ∈ r, fine v) (hi : ∀ o ∈ l, inW o) (v rvv : Value) (w : World) (h : Rw w [] v l) (hrr : Rw w [] rvv r) (hz : formE l = 0) (hmr : mayR r = true) (u : Vl) (hR : runX r l = .ok u) (hu : fine u) :
    Calls Try.prog 16 #[v, rvv] w fun e w' => e = .returned (.tuple #[val u.1 u.2.1 u.2.2, .int .i64 0]) ∧ Ext w w' := by
  have hf := hide (fun w' (hX : Ext w w') => form_c l v w' (Sl.ext h hX))
  have hm := hide (fun w' (hX : Ext w w') => rowMay_c r rvv w' (Sl.ext hrr hX))
  have hrun : Hid (∀ w', Ext w w' → Calls Try.prog 38 #[v, rvv] w' fun e w'' => e = .returned (rv u) ∧ Ext w' w'') := by
    intro w' hX
    obtain ⟨t, hg, rfl, h64⟩ := formE_tree hz
    have := run_c r hr t.flat h64 (fE_of hg) hi v rvv w' (Sl.ext h hX) (Sl.ext hrr hX)
    rw [hR] at this
    exact this
  clear h hrr hR hi hr
  rw [hz] at hf
  rw [hmr] at hm
  clear hz hmr
  rcases fine_cases hu with ⟨n, rfl, hn⟩ | ⟨s, rfl, hs⟩
  · replace hrun := hide (show ∀ w', Ext w w' → Calls Try.prog 38 #[v, rvv] w' fun e w'' => e = .returned (rN n) ∧ Ext w' w'' from hrun.out)
    clear hu
    go_enter_defers Try.func16, Try.ntmps16
    go_wp2_with (first | (go_at_call 11; (with_reducible refine seq_gw (hf.out _ (((Ext.refl w).alloc _).alloc _)) ?_); intro g; obtain ⟨hX, o1, o2⟩ := res_obs g; haveI : In w.heap.size g.val := ⟨o1.lt⟩; haveI : In (w.heap.size + 1) g.val := ⟨o2.lt⟩) | (go_at_call 36; (with_reducible refine seq_gw (hm.out _ hX) ?_); intro g2; replace hX := hX.trans g2.grown; replace o1 := o1.ext g2.grown; replace o2 := o2.ext g2.grown; skip) | (go_at_call 38; (with_reducible refine seq_gw (hrun.out _ hX) ?_); intro g3; replace hX := hX.trans g3.grown; replace o1 := o1.ext g3.grown; replace o2 := o2.ext g3.grown) | (go_at_call 134; (with_reducible refine seq_gw (nval_c _ _) ?_); intro g4; replace hX := hX.trans g4.grown; replace o1 := o1.ext g4.grown; replace o2 := o2.ext g4.grown; have c0 := o1.cell 0 rfl; have c1 := o1.cell 1 rfl; have c2 := o1.cell 2 rfl; have f0 := o1.free 0; have f1 := o1.free 1; have f2 := o1.free 2; have d0 := o2.cell 0 rfl; have e0 := o2.free 0))
    refine leaves_cons (f := 37) (args := #[.pointer (some ⟨w.heap.size, 0, none⟩), .pointer (some ⟨w.heap.size + 1, 0, none⟩)]) (by simp) (by simp [go_sem]) ?_
    refine (stop_idle _ _ _).mono ?_
    rintro e u' w'' ⟨rfl, rfl, rfl⟩
    refine ⟨_, (by simp [results, Try.results16, go_sem, c0, c1, c2, d0]), rfl, ?_⟩
    exact (((hX.setCell (p := ⟨w.heap.size, 0, none⟩) (Nat.le_refl _) _).setCell (p := ⟨w.heap.size, 1, none⟩) (Nat.le_refl _) _).setCell (p := ⟨w.heap.size, 2, none⟩) (Nat.le_refl _) _).setCell (p := ⟨w.heap.size + 1, 0, none⟩) (Nat.le_add_right _ _) _
  · replace hrun := hide (show ∀ w', Ext w w' → Calls Try.prog 38 #[v, rvv] w' fun e w'' => e = .returned (rT s) ∧ Ext w' w'' from hrun.out)
    clear hu
    go_enter_defers Try.func16, Try.ntmps16
    go_wp2_with (first | (go_at_call 11; (with_reducible refine seq_gw (hf.out _ (((Ext.refl w).alloc _).alloc _)) ?_); intro g; obtain ⟨hX, o1, o2⟩ := res_obs g; haveI : In w.heap.size g.val := ⟨o1.lt⟩; haveI : In (w.heap.size + 1) g.val := ⟨o2.lt⟩) | (go_at_call 36; (with_reducible refine seq_gw (hm.out _ hX) ?_); intro g2; replace hX := hX.trans g2.grown; replace o1 := o1.ext g2.grown; replace o2 := o2.ext g2.grown; skip) | (go_at_call 38; (with_reducible refine seq_gw (hrun.out _ hX) ?_); intro g3; replace hX := hX.trans g3.grown; replace o1 := o1.ext g3.grown; replace o2 := o2.ext g3.grown) | (go_at_call 138; (with_reducible refine seq_gw (tval_c _ hs _) ?_); intro g4; replace hX := hX.trans g4.grown; replace o1 := o1.ext g4.grown; replace o2 := o2.ext g4.grown; have c0 := o1.cell 0 rfl; have c1 := o1.cell 1 rfl; have c2 := o1.cell 2 rfl; have f0 := o1.free 0; have f1 := o1.free 1; have f2 := o1.free 2; have d0 := o2.cell 0 rfl; have e0 := o2.free 0))
    refine leaves_cons (f := 37) (args := #[.pointer (some ⟨w.heap.size, 0, none⟩), .pointer (some ⟨w.heap.size + 1, 0, none⟩)]) (by simp) (by simp [go_sem]) ?_
    refine (stop_idle _ _ _).mono ?_
    rintro e u' w'' ⟨rfl, rfl, rfl⟩
    refine ⟨_, (by simp [results, Try.results16, go_sem, c0, c1, c2, d0]), rfl, ?_⟩
    exact (((hX.setCell (p := ⟨w.heap.size, 0, none⟩) (Nat.le_refl _) _).setCell (p := ⟨w.heap.size, 1, none⟩) (Nat.le_refl _) _).setCell (p := ⟨w.heap.size, 2, none⟩) (Nat.le_refl _) _).setCell (p := ⟨w.heap.size + 1, 0, none⟩) (Nat.le_add_right _ _) _
end Go.Proofs.Ytopgapbipmblbaa
