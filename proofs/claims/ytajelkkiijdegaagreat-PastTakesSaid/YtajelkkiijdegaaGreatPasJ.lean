/-
  A helper of ours: no claim of its own. Layer 14 (past): what a message depends on (gist).
-/
import Derived.Test.YtajelkkiijdegaaGreatPasH
import Derived.Test.YtajelkkiijdegaaGreatFolA
import Derived.Test.YtajelkkiijdegaaGreatReg5
set_option linter.unusedVariables false
set_option linter.unusedSimpArgs false
namespace Go.Proofs.YtajelkkiijdegaaGreat
open Go.RowKit
attribute [local go_sem] GW.cell GW.frozen In.eq_true In.le_true In.ne In.ne' In.ne_add In.ne_add' In.lt_add Upto.le_true Upto.le_add Upto.lt_add
set_option maxHeartbeats 4000000 in
set_option maxRecDepth 100000 in
theorem pbegin_c (i f t : Int) (l : List Vl) (v : Value) (w : World) (hl : Rw w [] v l) (hz : l.length * 32 ≤ 140737488351232) : Calls Tryz.prog 84 #[.int .i64 i, .int .i64 f, .int .i64 t, v] w fun e w' => ∃ v', e = .returned (mg 1 i f t v') ∧ RwO w' v' l ∧ Ext w w' := by
  have hc := hide (fun w' (hX : Ext w w') => rowCopy_c l v w' (Sl.ext hl hX) hz)
  have hX0 := hide ((Ext.refl w).alloc (mO 0 0 0 0 (.slice none 0 0)))
  have O0 := hide (Ob.new w 44 [.int .i64 0, .int .i64 0, .int .i64 0, .int .i64 0, .slice none 0 0])
  clear hl
  go_enter Tryz.func84, Tryz.ntmps84
  go_wp2_with (go_at_call 53; refine (hc.out _ hX0.out).mono ?_; rintro ee w1 ⟨v1, rfl, ho1, hx1⟩; have O1 := O0.out.ext hx1; have c0 := O1.cell 0 rfl; have c1 := O1.cell 1 rfl; have c2 := O1.cell 2 rfl; have c3 := O1.cell 3 rfl; have c4 := O1.cell 4 rfl; have z0 := O1.free 0; have z1 := O1.free 1; have z2 := O1.free 2; have z3 := O1.free 3; have z4 := O1.free 4; have hlt1 := O1.lt; haveI : In w.heap.size w1 := ⟨hlt1⟩; obtain ⟨A1, cp1, rfl⟩ := own_form ho1)
  refine bodyPost_ret (by simp [results, Tryz.results84, go_sem, c0, c1, c2, c3, c4]; try rfl) rfl ?_
  have hF := (((((Fr.refl [w.heap.size] w1).setCell ⟨w.heap.size, 0, none⟩ (.int .i64 1) (.inl (by simp))).setCell ⟨w.heap.size, 1, none⟩ (.int .i64 i) (.inl (by simp))).setCell ⟨w.heap.size, 2, none⟩ (.int .i64 f) (.inl (by simp))).setCell ⟨w.heap.size, 3, none⟩ (.int .i64 t) (.inl (by simp))).setCell ⟨w.heap.size, 4, none⟩ (.slice A1 l.length cp1) (.inl (by simp))
  exact ⟨_, rfl, own_base (own_fr ho1 hF (by intro x hx; simp at hx; subst hx; simp)) (Nat.zero_le _), ext_fr (hX0.out.trans hx1) hF (by intro x hx; simp at hx; omega)⟩
theorem tMsg : ElemT Tryz.prog 24 44 (.agg #[.int .i64 0, .int .i64 0, .int .i64 0, .int .i64 0, .slice none 0 0]) 5 56 := ElemT.mk' Tryz.underlying24 (by kernel_rfl) rfl (by omega)
theorem src_msg (w : World) (xb : Nat) (k i f t : Int) (r : Value) (hr : r.oneCell' = true) (hx : Ob w xb 44 [.int .i64 k, .int .i64 i, .int .i64 f, .int .i64 t, r]) : Src Tryz.prog 5 24 (.slice (some ⟨xb, 0, none⟩) 1 1) 1 [.int .i64 k, .int .i64 i, .int .i64 f, .int .i64 t, r] w := by
  refine src_sl (S := []) Tryz.underlying24 ⟨some ⟨xb, 0, none⟩, 1, rfl, Nat.le_refl _, by decide, rfl, .inr ⟨xb, 0, rfl, by simp, fun j u hj => ?_⟩⟩ (fun u hu => ?_) (by omega)
  · rw [Nat.zero_add]; exact hx.cell j hj
  · simp at hu
    rcases hu with rfl | rfl | rfl | rfl | rfl
    all_goals first | rfl | exact hr
/-- A list of messages of one's own. -/
def OwnM (w : World) (base : Nat) (v : Value) (L : List Vm) : Prop := OwnX 44 5 (fun v m => mc1 (v, m)) (fun m => m.2) w base v L
theorem OwnM.ext {w w' : World} {base : Nat} {v : Value} {L : List Vm} (h : OwnM w base v L) (k : Ext w w') : OwnM w' base v L := OwnX.ext h k
section
variable {base p : Nat} {sc : List Cl} {c ser : Int} {mb n : Nat} {L : List Pb}
set_option maxHeartbeats 8000000 in
set_option maxRecDepth 100000 in
theorem pgist_c (id : Int) (hi : inI id) (w : World) (h : Pz w base p sc c ser mb n L) (hr8 : ∀ y ∈ L, y.1.2.1.length ≤ 8) : Calls Tryz.prog 39 #[.pointer (some ⟨p, 0, none⟩), .int .i64 id] w fun e w' => ∃ v G, e = .returned v ∧ OwnM w' w.heap.size v G ∧ pms G = gistP (atP L id) c ∧ Ext w w' := by
  obtain ⟨⟨sv, u, hP, -⟩, hM, hR⟩ := h
  have c1 := hP.ob.cell 1 rfl
  have c3 := hP.ob.cell 3 rfl
  have hl := plook_ok hM hi
  haveI : In p w := ⟨hP.ob.lt⟩
  cases ho : atP L id with
  | none =>
    rw [ho] at hl
    replace hl : ∀ w' [Gn w w'], (Instr.lookup 88 (.map (some mb)) (.int .i64 id) true).run Tryz.prog w' = .ok (.tuple #[.pointer none, .bool false]) w' := hl
    clear hP hM hR ho
    go_enter Tryz.func39, Tryz.ntmps39
    go_wp2_with (first | (go_at_call 85; first | ((with_reducible refine seq_gw' (mark_c _ _) ?_); intro g7) | ((with_reducible refine seq_gw (mark_c _ _) ?_); intro g7)) | (at_builtin; refine wpl_app tMsg rfl (.tmp 37) (.tmp 43) rfl rfl (World.ownsRow_nil _ w.heap.size _ _) rfl (src_msg _ _ _ _ _ _ _ rfl (Ob.new _ _ [_, _, _, _, _])) (by decide) (by decide) (by simp only [World.size_alloc]; have := g7.grown.size; omega) ?_; intro v4 w4 ho4 hg4 hob4; obtain ⟨A4, cp4, e4⟩ := own_form ho4; subst e4))
    go_returns
    replace hg4 : World.grownBy _ w4 none := hg4
    have hX4 : Ext w w4 := ext_fr (g7.grown.alloc _) (S := []) ((Fr.refl _ _).grown hg4 (fun z hz => by cases hz)) (by simp)
    exact ⟨_, [(.slice none 0 0, ((3, 0, c, 0), []))], rfl, ⟨ho4, by intro q hq; rw [List.mem_singleton.1 hq]; exact World.ownsRow_nil _ _ _ _⟩, rfl, hX4⟩
  | some y =>
    rw [ho] at hl
    obtain ⟨hyL, hyi⟩ := atP_some ho
    have hev := hP.evs y hyL
    have hro := hR y hyL
    have h8 := hr8 y hyL
    obtain ⟨⟨⟨yi, ys⟩, yr, ⟨yf, yt⟩⟩, yb, yv⟩ := y
    obtain rfl : id = yi := hyi.symm
    obtain ⟨YA, ycap, hyv⟩ := own_form hro
    simp only at hyv
    subst hyv
    simp only at h8
    replace hl : ∀ w' [Gn w w'], (Instr.lookup 88 (.map (some mb)) (.int .i64 id) true).run Tryz.prog w' = .ok (.tuple #[pp yb, .bool true]) w' := hl
    have a2 : Hid (w.cell? ⟨yb, 2, none⟩ = some (.slice YA yr.length ycap)) := Ob.cell hev 2 rfl
    have a3 : Hid (w.cell? ⟨yb, 3, none⟩ = some (.int .i64 yf)) := Ob.cell hev 3 rfl
    have a4 : Hid (w.cell? ⟨yb, 4, none⟩ = some (.int .i64 yt)) := Ob.cell hev 4 rfl
    have hX1 := hide (Ext.refl w)
    have hyb := Ob.lt hev
    haveI : In yb w := ⟨hyb⟩
    have hbg := hide (fun w' (hX : Ext w w') => pbegin_c id yf yt yr (.slice YA yr.length ycap) w' (RwO.ext hro hX).rw (by omega))
    have c1h := hide c1
    have hpl := hide hP.ob
    clear hP hM hR ho hev hro hyL
    haveI : In p w := ⟨hpl.out.lt⟩
    go_enter Tryz.func39, Tryz.ntmps39
    go_wp2_with fail
    refine wp_region_list_tail 18 [(.is ((.slice none 0 0))), (.is ((.int .i64 id))), (.is ((pp yb))), (.is ((pp yb))), (.is ((.pointer (some ⟨yb, 3, none⟩)))), (.is ((.pointer (some ⟨yb, 3, none⟩)))), (.is ((.int .i64 yf))), (.is ((pp yb))), (.is ((pp yb))), (.is ((.pointer (some ⟨yb, 3, none⟩)))), (.is ((.pointer (some ⟨yb, 4, none⟩)))), (.is ((.int .i64 yt))), (.is ((pp yb))), (.is ((pp yb))), (.is ((.pointer (some ⟨yb, 2, none⟩)))), (.is ((.slice YA yr.length ycap))), (.st (fun v w => ∃ A cp, v = mg 1 id yf yt (.slice A yr.length cp) ∧ RwO w (.slice A yr.length cp) yr) (fun v w w' ⟨A, cp, h1, h2⟩ k => ⟨A, cp, h1, h2.ext k⟩)), (.st (fun v w => ∃ xb A cp, v = .slice (some ⟨xb, 0, none⟩) 1 1 ∧ Ob w xb 44 [.int .i64 1, .int .i64 id, .int .i64 yf, .int .i64 yt, .slice A yr.length cp] ∧ RwO w (.slice A yr.length cp) yr) (fun v w w' ⟨xb, A, cp, h1, h2, h3⟩ k => ⟨xb, A, cp, h1, h2.ext k, h3.ext k⟩))] (by kernel_rfl) (by kernel_rfl) (by kernel_rfl) (by kernel_rfl) (by kernel_rfl) (by kernel_rfl) (by kernel_rfl) ?_ ?_
    · refine ⟨?_, ?_, ?_, ?_, ?_, ?_, ?_, ?_, ?_, ?_, ?_, ?_, ?_, ?_, ?_, ?_, ?_, ?_, trivial⟩
      · intro b w' h hE
        have f5 : b.tmps.getD 5 undef = (.slice none 0 0) := hE 5 (of_decide_eq_true (by kernel_rfl))
        exact good_move (wanted_none rfl) rfl f5
      · intro b w' h hE
        have f1 : b.tmps.getD 1 undef = (.int .i64 id) := hE 1 (of_decide_eq_true (by kernel_rfl))
        exact good_move (wanted_none rfl) rfl f1
      · intro b w' h hE
        have f6 : b.tmps.getD 6 undef = (pp yb) := hE 6 (of_decide_eq_true (by kernel_rfl))
        exact good_move (wanted_none rfl) rfl f6
      · intro b w' h hE
        have f20 : b.tmps.getD 20 undef = (pp yb) := h.dep 2 _ 20 (by kernel_rfl) rfl rfl
        exact good_nilCheck (wanted_none rfl) rfl f20 rfl
      · intro b w' h hE
        have f21 : b.tmps.getD 21 undef = (pp yb) := h.dep 3 _ 21 (by kernel_rfl) rfl rfl
        exact good_field (wanted_none rfl) rfl f21 (by simp [go_sem]) rfl
      · intro b w' h hE
        have f22 : b.tmps.getD 22 undef = (.pointer (some ⟨yb, 3, none⟩)) := h.dep 4 _ 22 (by kernel_rfl) rfl rfl
        exact good_field (wanted_none rfl) rfl f22 (by simp [go_sem]) rfl
      · intro b w' h hE
        have f23 : b.tmps.getD 23 undef = (.pointer (some ⟨yb, 3, none⟩)) := h.dep 5 _ 23 (by kernel_rfl) rfl rfl
        have c0 := cell_later h.ext a3.out
        exact good_load (wanted_none rfl) rfl f23 (by simp [go_sem, c0]) rfl
      · intro b w' h hE
        have f6 : b.tmps.getD 6 undef = (pp yb) := hE 6 (of_decide_eq_true (by kernel_rfl))
        exact good_move (wanted_none rfl) rfl f6
      · intro b w' h hE
        have f25 : b.tmps.getD 25 undef = (pp yb) := h.dep 7 _ 25 (by kernel_rfl) rfl rfl
        exact good_nilCheck (wanted_none rfl) rfl f25 rfl
      · intro b w' h hE
        have f26 : b.tmps.getD 26 undef = (pp yb) := h.dep 8 _ 26 (by kernel_rfl) rfl rfl
        exact good_field (wanted_none rfl) rfl f26 (by simp [go_sem]) rfl
      · intro b w' h hE
        have f27 : b.tmps.getD 27 undef = (.pointer (some ⟨yb, 3, none⟩)) := h.dep 9 _ 27 (by kernel_rfl) rfl rfl
        exact good_field (wanted_none rfl) rfl f27 (by simp [go_sem]) rfl
      · intro b w' h hE
        have f28 : b.tmps.getD 28 undef = (.pointer (some ⟨yb, 4, none⟩)) := h.dep 10 _ 28 (by kernel_rfl) rfl rfl
        have c0 := cell_later h.ext a4.out
        exact good_load (wanted_none rfl) rfl f28 (by simp [go_sem, c0]) rfl
      · intro b w' h hE
        have f6 : b.tmps.getD 6 undef = (pp yb) := hE 6 (of_decide_eq_true (by kernel_rfl))
        exact good_move (wanted_none rfl) rfl f6
      · intro b w' h hE
        have f30 : b.tmps.getD 30 undef = (pp yb) := h.dep 12 _ 30 (by kernel_rfl) rfl rfl
        exact good_nilCheck (wanted_none rfl) rfl f30 rfl
      · intro b w' h hE
        have f31 : b.tmps.getD 31 undef = (pp yb) := h.dep 13 _ 31 (by kernel_rfl) rfl rfl
        exact good_field (wanted_none rfl) rfl f31 (by simp [go_sem]) rfl
      · intro b w' h hE
        have f32 : b.tmps.getD 32 undef = (.pointer (some ⟨yb, 2, none⟩)) := h.dep 14 _ 32 (by kernel_rfl) rfl rfl
        have c0 := cell_later h.ext a2.out
        exact good_load (wanted_none rfl) rfl f32 (by simp [go_sem, c0]) rfl
      · intro b w' h hE
        have f19 : b.tmps.getD 19 undef = (.int .i64 id) := h.dep 1 _ 19 (by kernel_rfl) rfl rfl
        have g19 : b.tmps[19]?.getD undef = (.int .i64 id) := by rw [← Array.getD_eq_getD_getElem?]; exact f19
        have f24 : b.tmps.getD 24 undef = (.int .i64 yf) := h.dep 6 _ 24 (by kernel_rfl) rfl rfl
        have g24 : b.tmps[24]?.getD undef = (.int .i64 yf) := by rw [← Array.getD_eq_getD_getElem?]; exact f24
        have f29 : b.tmps.getD 29 undef = (.int .i64 yt) := h.dep 11 _ 29 (by kernel_rfl) rfl rfl
        have g29 : b.tmps[29]?.getD undef = (.int .i64 yt) := by rw [← Array.getD_eq_getD_getElem?]; exact f29
        have f33 : b.tmps.getD 33 undef = (.slice YA yr.length ycap) := h.dep 15 _ 33 (by kernel_rfl) rfl rfl
        have g33 : b.tmps[33]?.getD undef = (.slice YA yr.length ycap) := by rw [← Array.getD_eq_getD_getElem?]; exact f33
        refine good_call (wanted_none rfl) rfl (enters Tryz.func84 (by kernel_rfl) rfl) ?_
        rw [show (#[.tmp 19, .tmp 24, .tmp 29, .tmp 33] : Array Operand).map b.eval = #[.int .i64 id, .int .i64 yf, .int .i64 yt, .slice YA yr.length ycap] by simp [Act.eval, g19, g24, g29, g33]]
        exact (hbg.out w' h.ext).mono fun e w1 ⟨v1, he, ho, hx⟩ => by obtain ⟨A1, cp1, e1⟩ := own_form ho; subst e1; exact ⟨_, he, ⟨A1, cp1, rfl, ho⟩, hx⟩
      · intro b w' h hE
        have f34 : ∃ A cp, (b.tmps.getD 34 undef) = mg 1 id yf yt (.slice A yr.length cp) ∧ RwO w' (.slice A yr.length cp) yr := h.dep 16 _ 34 (by kernel_rfl) rfl rfl
        obtain ⟨A9, cp9, e9, hr9⟩ := f34
        have g34' : b.tmps[34]?.getD undef = mg 1 id yf yt (.slice A9 yr.length cp9) := by rw [← Array.getD_eq_getD_getElem?]; exact e9
        have hb1 : (Instr.buildSlice 24 1 #[(0, mg 1 id yf yt (.slice A9 yr.length cp9))]).run Tryz.prog w' = .ok (.slice (some ⟨w'.heap.size, 0, none⟩) 1 1) (w'.alloc (mO 1 id yf yt (.slice A9 yr.length cp9))) := by simp [go_sem]
        refine good_grow (w' := w'.alloc (mO 1 id yf yt (.slice A9 yr.length cp9))) (v := .slice (some ⟨w'.heap.size, 0, none⟩) 1 1) (wanted_none rfl) ?_ ⟨_, A9, cp9, rfl, Ob.new w' _ [_, _, _, _, _], hr9.ext ((Ext.refl _).alloc _)⟩ ((Ext.refl _).alloc _)
        simp [execOp, Act.eval, g34', hb1, Sem.run_bind, Sem.run_pure, Result.andThen_ok]
    · intro b w2 hX2 hd hz he' hf
      have e18 : b.tmps.getD 18 undef = (.slice none 0 0) := hf 0 _ 18 (by omega) rfl rfl
      have e19 : b.tmps.getD 19 undef = (.int .i64 id) := hf 1 _ 19 (by omega) rfl rfl
      have e20 : b.tmps.getD 20 undef = (pp yb) := hf 2 _ 20 (by omega) rfl rfl
      have e21 : b.tmps.getD 21 undef = (pp yb) := hf 3 _ 21 (by omega) rfl rfl
      have e22 : b.tmps.getD 22 undef = (.pointer (some ⟨yb, 3, none⟩)) := hf 4 _ 22 (by omega) rfl rfl
      have e23 : b.tmps.getD 23 undef = (.pointer (some ⟨yb, 3, none⟩)) := hf 5 _ 23 (by omega) rfl rfl
      have e24 : b.tmps.getD 24 undef = (.int .i64 yf) := hf 6 _ 24 (by omega) rfl rfl
      have e25 : b.tmps.getD 25 undef = (pp yb) := hf 7 _ 25 (by omega) rfl rfl
      have e26 : b.tmps.getD 26 undef = (pp yb) := hf 8 _ 26 (by omega) rfl rfl
      have e27 : b.tmps.getD 27 undef = (.pointer (some ⟨yb, 3, none⟩)) := hf 9 _ 27 (by omega) rfl rfl
      have e28 : b.tmps.getD 28 undef = (.pointer (some ⟨yb, 4, none⟩)) := hf 10 _ 28 (by omega) rfl rfl
      have e29 : b.tmps.getD 29 undef = (.int .i64 yt) := hf 11 _ 29 (by omega) rfl rfl
      have e30 : b.tmps.getD 30 undef = (pp yb) := hf 12 _ 30 (by omega) rfl rfl
      have e31 : b.tmps.getD 31 undef = (pp yb) := hf 13 _ 31 (by omega) rfl rfl
      have e32 : b.tmps.getD 32 undef = (.pointer (some ⟨yb, 2, none⟩)) := hf 14 _ 32 (by omega) rfl rfl
      have e33 : b.tmps.getD 33 undef = (.slice YA yr.length ycap) := hf 15 _ 33 (by omega) rfl rfl
      have f34 : ∃ A cp, (b.tmps.getD 34 undef) = mg 1 id yf yt (.slice A yr.length cp) ∧ RwO w2 (.slice A yr.length cp) yr := hf 16 _ 34 (by omega) rfl rfl
      have f35 : ∃ xb A cp, (b.tmps.getD 35 undef) = .slice (some ⟨xb, 0, none⟩) 1 1 ∧ Ob w2 xb 44 [.int .i64 1, .int .i64 id, .int .i64 yf, .int .i64 yt, .slice A yr.length cp] ∧ RwO w2 (.slice A yr.length cp) yr := hf 17 _ 35 (by omega) rfl rfl
      have e := frame_puts hd hz he'
      obtain ⟨X, hXx⟩ : ∃ X : Nat → Value, ∀ d, b.tmps.getD d undef = X d := ⟨_, fun _ => rfl⟩
      rw [hXx] at e18 e19 e20 e21 e22 e23 e24 e25 e26 e27 e28 e29 e30 e31 e32 e33 f34 f35
      obtain ⟨A34, c34, q34, -⟩ := f34
      obtain ⟨xb, A35, c35, q35, hob, hrr⟩ := f35
      rw [show dstsOf _ = [18, 19, 20, 21, 22, 23, 24, 25, 26, 27, 28, 29, 30, 31, 32, 33, 34, 35] from rfl] at e
      simp only [List.foldl_cons, List.foldl_nil, hXx, Act.put, List.setIfInBounds_toArray, List.set_cons_succ, List.set_cons_zero] at e
      rw [e18, e19, e20, e21, e22, e23, e24, e25, e26, e27, e28, e29, e30, e31, e32, e33, q34, q35] at e
      clear hf he' hz hd hXx e18 e19 e20 e21 e22 e23 e24 e25 e26 e27 e28 e29 e30 e31 e32 e33 q34 q35
      subst e
      have hzw := hX2.size
      simp only [List.drop_succ_cons, List.drop_zero]
      have hX9 := hide (hX1.out.trans hX2)
      have hxb := hide hob
      replace hrr := hide hrr
      have c1w := hide c1h.out
      clear hob hbg a2 a3 a4
      go_wp2_with (first | (go_at_call 85; first | ((with_reducible refine seq_gw' (mark_c _ _) ?_); intro g7) | ((with_reducible refine seq_gw (mark_c _ _) ?_); intro g7)) | (at_builtin; refine wpl_app tMsg rfl (.tmp 18) (.tmp 35) rfl rfl (World.ownsRow_nil _ w.heap.size _ _) rfl (src_msg _ _ _ _ _ _ _ rfl hxb.out) (by decide) (by decide) (by have := hX9.out.size; omega) ?_; intro v4 w4 ho4 hg4 hob4; obtain ⟨A4, cp4, e4⟩ := own_form ho4; subst e4; replace hg4 : World.grownBy _ w4 none := hg4; have hX4 := hide (ext_fr hX9.out (S := []) ((Fr.refl _ _).grown hg4 (fun z hz => by cases hz)) (by simp)); have hm4 := hide (OwnX.app (f := fun v m => mc1 (v, m)) (row := fun m : PM => m.2) (M := [((.slice A35 yr.length c35), ((1, id, yf, yt), yr))]) (by decide) (OwnX.nil _ _) ho4 hg4 (by intro q hq; rw [List.mem_singleton.1 hq]; exact hrr.out)); replace ho4 := hide ho4; clear hob4 hg4; have c14 := pcell_later hX4.out c1h.out; haveI : In p w4 := ⟨Nat.lt_of_lt_of_le hpl.out.lt hX4.out.size⟩) | (at_builtin; refine wpl_app tMsg rfl (.tmp 37) (.tmp 43) rfl rfl (own_ext ho4.out (g7.grown.alloc _)) rfl (src_msg _ _ _ _ _ _ _ rfl (Ob.new _ _ [_, _, _, _, _])) (by decide) (by decide) (by simp only [World.size_alloc]; have := g7.grown.size; have := hX4.out.size; omega) ?_; intro v5 w5 ho5 hg5 hob5; obtain ⟨A5, cp5, e5⟩ := own_form ho5; subst e5; replace hg5 : World.grownBy _ w5 (Value.slice A4 (0 + 1) cp4).ownBlock := hg5; have hm5 := hide (OwnX.app (f := fun v m => mc1 (v, m)) (row := fun m : PM => m.2) (M := [((.slice none 0 0), ((3, 0, c, 0), []))]) (by decide) (hm4.out.ext (g7.grown.alloc _)) ho5 hg5 (by intro q hq; rw [List.mem_singleton.1 hq]; exact World.ownsRow_nil _ _ _ _))))
      go_returns
      have hX5 : Ext w w5 := ext_fr (hX4.out.trans (g7.grown.alloc _)) (fr_grown hg5) (fun b hb => (ob_ge ho4.out b hb).1)
      exact ⟨_, _, rfl, hm5.out, rfl, hX5⟩
end
end Go.Proofs.YtajelkkiijdegaaGreat
