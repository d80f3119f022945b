/-
  A helper of ours: no claim of its own. Layer 14 (past): the event that is known by a number, by the code.
-/
import Derived.Test.YtajelkkiijdegaaGreatPasO
set_option linter.unusedVariables false
set_option linter.unusedSimpArgs false
namespace Go.Proofs.YtajelkkiijdegaaGreat
open Go.RowKit
attribute [local go_sem] GW.cell GW.frozen In.eq_true In.le_true In.ne In.ne' In.ne_add In.ne_add' In.lt_add Upto.le_true Upto.le_add Upto.lt_add
section
variable {base p : Nat} {sc : List Cl} {c ser : Int} {mb n : Nat} {L : List Pb}
theorem pfind_no (id : Int) (hi : inI id) (w : World) (h : Pz w base p sc c ser mb n L) (ho : atP L id = none) : Calls Tryz.prog 21 #[.pointer (some ⟨p, 0, none⟩), .int .i64 id] w fun e w' => e = .returned (.tuple #[.agg #[.int .i64 0, .slice none 0 0, .int .i64 0, .int .i64 0], .bool false]) ∧ Ext w w' := by
  obtain ⟨⟨sv, u, hP, -⟩, hM, -⟩ := h
  have c3 := hP.ob.cell 3 rfl
  haveI : In p w := ⟨hP.ob.lt⟩
  have hl := plook_ok hM hi
  rw [ho] at hl
  replace hl : ∀ w' [Gn w w'], (Instr.lookup 88 (.map (some mb)) (.int .i64 id) true).run Tryz.prog w' = .ok (.tuple #[.pointer none, .bool false]) w' := hl
  clear hP hM ho
  go_enter Tryz.func21, Tryz.ntmps21
  go_wp2_with fail
  go_returns
  refine ⟨by first | rfl | simp, ?_⟩
  repeat refine Ext.setCell ?_ (by first | (simp; done) | (simp; omega)) _
  exact (Ext.refl w).alloc _
set_option maxHeartbeats 4000000 in
set_option maxRecDepth 100000 in
theorem pfind_yes (id : Int) (hi : inI id) (w : World) (h : Pz w base p sc c ser mb n L) (y : Pb) (ho : atP L id = some y) (hy : y.1.2.1.length ≤ 8) : Calls Tryz.prog 21 #[.pointer (some ⟨p, 0, none⟩), .int .i64 id] w fun e w' => ∃ v', e = .returned (.tuple #[.agg #[.int .i64 id, v', .int .i64 y.1.2.2.1, .int .i64 y.1.2.2.2], .bool true]) ∧ RwO w' v' y.1.2.1 ∧ Ext w w' := by
  obtain ⟨⟨sv, u, hP, -⟩, hM, hR⟩ := h
  have c3 := hP.ob.cell 3 rfl
  haveI : In p w := ⟨hP.ob.lt⟩
  have hl := plook_ok hM hi
  rw [ho] at hl
  replace hl : ∀ w' [Gn w w'], (Instr.lookup 88 (.map (some mb)) (.int .i64 id) true).run Tryz.prog w' = .ok (.tuple #[pp y.2.1, .bool true]) w' := hl
  have hym := (atP_some ho).1
  have hev := hP.evs y hym
  obtain ⟨W0, hW0⟩ : ∃ W0, W0 = w.alloc (.cells #[.int .i64 0, .slice none 0 0, .int .i64 0, .int .i64 0] 59) := ⟨_, rfl⟩
  obtain ⟨bt, hbt⟩ : ∃ bt, bt = w.heap.size := ⟨_, rfl⟩
  have hX0 : Ext w W0 := by rw [hW0]; exact (Ext.refl w).alloc _
  have hOt : Hid (Ob W0 bt 59 [.int .i64 0, .slice none 0 0, .int .i64 0, .int .i64 0]) := by show Ob _ _ _ _; rw [hW0, hbt]; exact Ob.new w _ [_, _, _, _]
  have hrc := hide (fun w' (hX : Ext W0 w') => rowCopy_c y.1.2.1 y.2.2 w' (RwO.rw (own_ext (hR y hym) (hX0.trans hX))) (by omega))
  have hev0 := hev.ext hX0
  obtain ⟨RA, rc, er⟩ := own_form (hR y hym)
  have a2 := hide (Ob.cell hev0 2 rfl)
  have a3 := hide (Ob.cell hev0 3 rfl)
  have a4 := hide (Ob.cell hev0 4 rfl)
  haveI : In y.2.1 W0 := ⟨Ob.lt hev0⟩
  have hX0h := hide hX0
  have hW0h := hide hW0
  replace hbt := hide hbt
  clear hP hM ho hR hev hev0 hX0
  obtain ⟨⟨⟨yi, ys⟩, r, ⟨f, t⟩⟩, yb, yv⟩ := y
  simp only at *
  replace a4 : Hid (W0.cell? ⟨yb, 4, none⟩ = some (.int .i64 t)) := a4
  subst er
  clear hW0
  go_enter Tryz.func21, Tryz.ntmps21
  go_wp2_with fail
  rw [← hW0h.out, ← hbt.out]
  refine wp_region_list_tail 10 [(.is ((.int .i64 id))), (.is ((.pointer (some ⟨yb, 0, none⟩)))), (.is ((.pointer (some ⟨yb, 0, none⟩)))), (.is ((.pointer (some ⟨yb, 2, none⟩)))), (.is ((.slice RA r.length rc))), (.st (fun v w => RwO w v r) (fun _ _ _ h k => own_ext h k)), (.is ((.pointer (some ⟨yb, 0, none⟩)))), (.is ((.pointer (some ⟨yb, 0, none⟩)))), (.is ((.pointer (some ⟨yb, 3, none⟩)))), (.is ((.agg #[.int .i64 f, .int .i64 t])))] (by kernel_rfl) (by kernel_rfl) (by kernel_rfl) (by kernel_rfl) (by kernel_rfl) (by kernel_rfl) (by kernel_rfl) ?_ ?_
  · refine ⟨?_, ?_, ?_, ?_, ?_, ?_, ?_, ?_, ?_, ?_, trivial⟩
    · intro b w' h hE
      have f1 : b.tmps.getD 1 undef = (.int .i64 id) := hE 1 (of_decide_eq_true (by kernel_rfl))
      exact good_move (wanted_none rfl) rfl f1
    · intro b w' h hE
      have f6 : b.tmps.getD 6 undef = (.pointer (some ⟨yb, 0, none⟩)) := hE 6 (of_decide_eq_true (by kernel_rfl))
      exact good_move (wanted_none rfl) rfl f6
    · intro b w' h hE
      have f24 : b.tmps.getD 24 undef = (.pointer (some ⟨yb, 0, none⟩)) := h.dep 1 _ 24 (by kernel_rfl) rfl rfl
      exact good_nilCheck (wanted_none rfl) rfl f24 rfl
    · intro b w' h hE
      have f25 : b.tmps.getD 25 undef = (.pointer (some ⟨yb, 0, none⟩)) := h.dep 2 _ 25 (by kernel_rfl) rfl rfl
      exact good_field (wanted_none rfl) rfl f25 (by simp [go_sem]) rfl
    · intro b w' h hE
      have f26 : b.tmps.getD 26 undef = (.pointer (some ⟨yb, 2, none⟩)) := h.dep 3 _ 26 (by kernel_rfl) rfl rfl
      have c0 := cell_later h.ext a2.out
      exact good_load (wanted_none rfl) rfl f26 (by simp [go_sem, c0]) rfl
    · intro b w' h hE
      have f27 : b.tmps.getD 27 undef = (.slice RA r.length rc) := h.dep 4 _ 27 (by kernel_rfl) rfl rfl
      have g27 : b.tmps[27]?.getD undef = (.slice RA r.length rc) := by rw [← Array.getD_eq_getD_getElem?]; exact f27
      refine good_call (wanted_none rfl) rfl (enters Tryz.func53 (by kernel_rfl) rfl) ?_
      rw [show (#[.tmp 27] : Array Operand).map b.eval = #[.slice RA r.length rc] by simp [Act.eval, g27]]
      exact (hrc.out w' h.ext).mono fun e w1 ⟨v1, he, ho, hx⟩ => ⟨v1, he, own_base ho (Nat.zero_le _), hx⟩
    · intro b w' h hE
      have f6 : b.tmps.getD 6 undef = (.pointer (some ⟨yb, 0, none⟩)) := hE 6 (of_decide_eq_true (by kernel_rfl))
      exact good_move (wanted_none rfl) rfl f6
    · intro b w' h hE
      have f29 : b.tmps.getD 29 undef = (.pointer (some ⟨yb, 0, none⟩)) := h.dep 6 _ 29 (by kernel_rfl) rfl rfl
      exact good_nilCheck (wanted_none rfl) rfl f29 rfl
    · intro b w' h hE
      have f30 : b.tmps.getD 30 undef = (.pointer (some ⟨yb, 0, none⟩)) := h.dep 7 _ 30 (by kernel_rfl) rfl rfl
      exact good_field (wanted_none rfl) rfl f30 (by simp [go_sem]) rfl
    · intro b w' h hE
      have f31 : b.tmps.getD 31 undef = (.pointer (some ⟨yb, 3, none⟩)) := h.dep 8 _ 31 (by kernel_rfl) rfl rfl
      have c0 := cell_later h.ext a3.out
      have c1 := cell_later h.ext a4.out
      exact good_load (wanted_none rfl) rfl f31 (by simp [go_sem, c0, c1]) rfl
  · intro b w2 hX2 hd hz he' hf
    have e23 : b.tmps.getD 23 undef = (.int .i64 id) := hf 0 _ 23 (by omega) rfl rfl
    have e24 : b.tmps.getD 24 undef = (.pointer (some ⟨yb, 0, none⟩)) := hf 1 _ 24 (by omega) rfl rfl
    have e25 : b.tmps.getD 25 undef = (.pointer (some ⟨yb, 0, none⟩)) := hf 2 _ 25 (by omega) rfl rfl
    have e26 : b.tmps.getD 26 undef = (.pointer (some ⟨yb, 2, none⟩)) := hf 3 _ 26 (by omega) rfl rfl
    have e27 : b.tmps.getD 27 undef = (.slice RA r.length rc) := hf 4 _ 27 (by omega) rfl rfl
    have f9 : RwO w2 (b.tmps.getD 28 undef) r := hf 5 _ 28 (by omega) rfl rfl
    have e29 : b.tmps.getD 29 undef = (.pointer (some ⟨yb, 0, none⟩)) := hf 6 _ 29 (by omega) rfl rfl
    have e30 : b.tmps.getD 30 undef = (.pointer (some ⟨yb, 0, none⟩)) := hf 7 _ 30 (by omega) rfl rfl
    have e31 : b.tmps.getD 31 undef = (.pointer (some ⟨yb, 3, none⟩)) := hf 8 _ 31 (by omega) rfl rfl
    have e32 : b.tmps.getD 32 undef = (.agg #[.int .i64 f, .int .i64 t]) := hf 9 _ 32 (by omega) rfl rfl
    have e := frame_puts hd hz he'
    obtain ⟨X, hXx⟩ : ∃ X : Nat → Value, ∀ d, b.tmps.getD d undef = X d := ⟨_, fun _ => rfl⟩
    rw [hXx] at e23 e24 e25 e26 e27 e29 e30 e31 e32 f9
    obtain ⟨A28, c28, q28⟩ := own_form f9
    rw [show dstsOf _ = [23, 24, 25, 26, 27, 28, 29, 30, 31, 32] from rfl] at e
    simp only [List.foldl_cons, List.foldl_nil, hXx, Act.put, List.setIfInBounds_toArray, List.set_cons_succ, List.set_cons_zero] at e
    rw [e23, e24, e25, e26, e27, e29, e30, e31, e32, q28] at e
    rw [q28] at f9
    replace f9 := hide f9
    clear hf he' hz hd hXx e23 e24 e25 e26 e27 e29 e30 e31 e32 q28
    subst e
    have hzw := hX2.size
    simp only [List.drop_succ_cons, List.drop_zero]
    have hOt2 := hOt.out.ext hX2
    have hbl := hOt2.lt
    have u0 := hOt2.cell 0 rfl
    have u1 := hOt2.cell 1 rfl
    have u2 := hOt2.cell 2 rfl
    have u3 := hOt2.cell 3 rfl
    have v0 := hOt2.free 0
    have v1 := hOt2.free 1
    have v2 := hOt2.free 2
    have v3 := hOt2.free 3
    haveI : In bt w2 := ⟨hbl⟩
    replace hOt2 := hide hOt2
    replace hX2 := hide hX2
    go_wp2_with fail
    have hO9 : Ob ((((w2.setCell ⟨bt, 0, none⟩ (.int .i64 id)).setCell ⟨bt, 1, none⟩ (.slice A28 r.length c28)).setCell ⟨bt, 2, none⟩ (.int .i64 f)).setCell ⟨bt, 3, none⟩ (.int .i64 t)) bt 59 [.int .i64 id, .slice A28 r.length c28, .int .i64 f, .int .i64 t] := (((hOt2.out.set 0 _).set 1 _).set 2 _).set 3 _
    have x0 := hO9.cell 0 rfl
    have x1 := hO9.cell 1 rfl
    have x2 := hO9.cell 2 rfl
    have x3 := hO9.cell 3 rfl
    have hF9 : Fr [bt] w2 ((((w2.setCell ⟨bt, 0, none⟩ (.int .i64 id)).setCell ⟨bt, 1, none⟩ (.slice A28 r.length c28)).setCell ⟨bt, 2, none⟩ (.int .i64 f)).setCell ⟨bt, 3, none⟩ (.int .i64 t)) := ((((Fr.refl [bt] w2).setCell _ _ (.inl (by simp))).setCell _ _ (.inl (by simp))).setCell _ _ (.inl (by simp))).setCell _ _ (.inl (by simp))
    refine bodyPost_ret (by simp [results, Tryz.results21, go_sem, x0, x1, x2, x3]; try rfl) rfl ?_
    exact ⟨_, rfl, own_stay f9.out hF9 (fun b hb => by rw [List.mem_singleton.1 hb]; exact hOt2.out.nt (by decide)), ext_fr (hX0h.out.trans hX2.out) hF9 (fun b hb => by rw [List.mem_singleton.1 hb, hbt.out]; exact Nat.le_refl _)⟩
end
end Go.Proofs.YtajelkkiijdegaaGreat
