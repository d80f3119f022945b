/-
  A helper of ours: no claim of its own. Layer 14 (past), the document's state of layer 13 in it: a message taken, by the document: an insert.
-/
import Derived.Test.YtajelkkiijdegaaGreatEdgPt
import Derived.Test.YtajelkkiijdegaaGreatReg5
import Derived.Test.YtajelkkiijdegaaGreatPasK
set_option linter.unusedVariables false
set_option linter.unusedSimpArgs false
namespace Go.Proofs.YtajelkkiijdegaaGreat
open Go.RowKit
attribute [local go_sem] GW.cell GW.frozen In.eq_true In.le_true In.ne In.ne' In.ne_add In.ne_add' In.lt_add Upto.le_true Upto.le_add Upto.lt_add
theorem tBool : ElemT Tryz.prog 47 4 (.bool false) 1 1 := ElemT.mk' Tryz.underlying47 (by kernel_rfl) rfl (by omega)
theorem Sd.stay {w w' : World} {base r : Nat} {sv : Value} {S : StD} {ev gv : Value} {L : List Lv} {T : List Nat} (h : Sd w base r sv S ev gv L) (hF : Fr T w w') (hT : ∀ b ∈ T, NT w 51 b ∧ NT w 59 b ∧ NT w 4 b ∧ NT w 83 b) : Sd w' base r sv S ev gv L :=
  ⟨h.ob.fr hF (fun m => (hT r m).1 _ _ h.ob), h.own.stay hF (fun b hb => ⟨(hT b hb).2.1, (hT b hb).2.2.2⟩), own_stay h.gone hF (fun b hb => (hT b hb).2.2.1), h.evs, h.rb⟩
theorem sdBlk {w : World} {base r : Nat} {sv : Value} {S : StD} {ev gv : Value} {L : List Lv} (h : Sd w base r sv S ev gv L) : ∀ b ∈ r :: (ob ev ++ ob gv), base ≤ b := fun b hb => by
  rcases List.mem_cons.1 hb with rfl | hb
  · exact h.rb
  · rcases List.mem_append.1 hb with hb | hb
    · exact (ob_ge h.own.1 b hb).1
    · exact (ob_ge h.gone b hb).1
theorem sdNt {w : World} {base r : Nat} {sv : Value} {S : StD} {ev gv : Value} {L : List Lv} (h : Sd w base r sv S ev gv L) {e : TypeId} (h1 : 51 ≠ e) (h2 : 59 ≠ e) (h3 : 4 ≠ e) : ∀ b ∈ r :: (ob ev ++ ob gv), NT w e b := fun b hb => by
  rcases List.mem_cons.1 hb with rfl | hb
  · exact h.ob.nt h1
  · rcases List.mem_append.1 hb with hb | hb
    · exact own_nt h.own.1 h2 b hb
    · exact own_nt h.gone h3 b hb
def evB (n : Nat) : Fact := .st (fun v w' => ∃ B, v = .pointer (some ⟨B, 0, none⟩) ∧ n ≤ B ∧ Ob w' B 59 [.int .i64 0, .slice none 0 0, .int .i64 0, .int .i64 0]) (fun v w w' ⟨B, h1, h2, h3⟩ hx => ⟨B, h1, h2, h3.ext hx⟩)
set_option maxHeartbeats 8000000 in
set_option maxRecDepth 100000 in
theorem docTake1_c (base r : Nat) (sv : Value) (S : StD) (ev gv : Value) (L : List Lv) (i f t : Int) (l : List Vl) (v : Value) (w : World) (h : Sd w base r sv S ev gv L) (hn : L.length ≤ 100000) (hv : Rw w [] v l) (h0 : chkD S ((1, i, f, t), l) = 0) (hbs : base ≤ w.heap.size) :
    Calls Tryz.prog 49 #[.pointer (some ⟨r, 1, none⟩), mg 1 i f t v] w fun e w' => ∃ vc ev' gv' L', e = .returned (.tuple #[chV vc (S.2.length + 1, l, (0, 0), (f, t)), .int .i64 0]) ∧ RwO w' vc l ∧ Sd w' base r sv (S.1, S.2 ++ [((i, l), (f, t), false)]) ev' gv' L' ∧ Fr (r :: (ob ev ++ ob gv)) w w' := by
  have hlen : l.length ≤ 8 := by
    have hm := (chkO_zero h0).1
    have := (mchk_one hm).1
    exact mayR_len this
  have hcd := hide (fun w' (hX : Ext w w') => docCheck_c base r sv S ev gv L 1 i f t l v w' (h.ext hX) (by omega) (Sl.ext hv hX))
  obtain ⟨VA, vc, rfl⟩ := rw_val hv
  rw [h0] at hcd
  have hvx := hide hv
  obtain ⟨ll, hll⟩ : ∃ ll, ll = l.length := ⟨_, rfl⟩
  rw [← hll] at hcd
  rw [← hll]
  replace hll := hide hll
  have hlt := h.ob.lt
  obtain ⟨EA, ec, rfl⟩ := h.own.form
  obtain ⟨GA, gc, rfl⟩ := own_form h.gone
  have hlb0 : Hid (∀ x ∈ r :: (ob (.slice EA L.length ec) ++ ob (.slice GA L.length gc)), x < w.heap.size) := fun x hx => by
    rcases List.mem_cons.1 hx with rfl | hx
    · exact hlt
    · rcases List.mem_append.1 hx with hx | hx
      · exact (ob_ge h.own.1 x hx).2
      · exact (ob_ge h.gone x hx).2
  have hOm0 := hide (show Ob ((w.alloc (.cells #[.int .i64 1, .int .i64 i, .int .i64 f, .int .i64 t, .slice VA ll vc] 44)).alloc (.cells #[.int .i64 0, .slice none 0 0, .int .i64 0, .int .i64 0, .int .i64 0, .int .i64 0] 39)) w.heap.size 44 [.int .i64 1, .int .i64 i, .int .i64 f, .int .i64 t, .slice VA ll vc] from (Ob.new w 44 [.int .i64 1, .int .i64 i, .int .i64 f, .int .i64 t, .slice VA ll vc]).alloc _)
  have hOr0 := hide (show Ob ((w.alloc (.cells #[.int .i64 1, .int .i64 i, .int .i64 f, .int .i64 t, .slice VA ll vc] 44)).alloc (.cells #[.int .i64 0, .slice none 0 0, .int .i64 0, .int .i64 0, .int .i64 0, .int .i64 0] 39)) (w.heap.size + 1) 39 [.int .i64 0, .slice none 0 0, .int .i64 0, .int .i64 0, .int .i64 0, .int .i64 0] by
    have := Ob.new (w.alloc (.cells #[.int .i64 1, .int .i64 i, .int .i64 f, .int .i64 t, .slice VA ll vc] 44)) 39 [.int .i64 0, .slice none 0 0, .int .i64 0, .int .i64 0, .int .i64 0, .int .i64 0]
    rw [World.size_alloc] at this
    exact this)
  have hh := hide h
  clear h hv h0
  go_enter Tryz.func49, Tryz.ntmps49
  go_wp2_with (go_at_call 48; first | ((with_reducible refine seq_gw' (hcd.out _ Gn.ext) ?_); intro g1) | ((with_reducible refine seq_gw (hcd.out _ Gn.ext) ?_); intro g1))
  have hOm := hOm0.out.ext g1.grown
  have hOr := hide (hOr0.out.ext g1.grown)
  have m1 := hide (hOm.cell 1 rfl)
  have m2 := hide (hOm.cell 2 rfl)
  have m3 := hide (hOm.cell 3 rfl)
  have m4 := hide (hOm.cell 4 rfl)
  have hXg := hide (Gn.ext (w := w) : Ext w g1.val)
  clear hOm0 hOr0 hcd hOm
  refine wp_region_list_tail 13 [(.is (.pointer (some ⟨w.heap.size, 1, none⟩))), (.is (.int .i64 i)), litF g1.val.heap.size, (.is (.pointer (some ⟨w.heap.size, 4, none⟩))), (.is (.slice VA ll vc)), rowOF l, (.is (.pointer (some ⟨w.heap.size, 2, none⟩))), (.is (.int .i64 f)), (.is (.pointer (some ⟨w.heap.size, 3, none⟩))), (.is (.int .i64 t)), (.is (.agg #[.int .i64 f, .int .i64 t])), evtF ((i, l), (f, t)), evB g1.val.heap.size] (by kernel_rfl) (by kernel_rfl) (by kernel_rfl) (by kernel_rfl) (by kernel_rfl) (by kernel_rfl) (by kernel_rfl) ?_ ?_
  · refine ⟨?_, ?_, ?_, ?_, ?_, ?_, ?_, ?_, ?_, ?_, ?_, ?_, ?_, trivial⟩
    · intro b w' h hE
      have f3 : b.tmps.getD 3 undef = .pointer (some ⟨w.heap.size, 0, none⟩) := hE 3 (of_decide_eq_true (by kernel_rfl))
      exact good_field (wanted_none rfl) rfl f3 (by simp [go_sem]) rfl
    · intro b w' h hE
      have f29 : b.tmps.getD 29 undef = .pointer (some ⟨w.heap.size, 1, none⟩) := h.dep 0 _ 29 (by kernel_rfl) rfl rfl
      have c0 := cell_later h.ext m1.out
      exact good_load (wanted_none rfl) rfl f29 (by simp [go_sem, c0]) rfl
    · intro b w' h hE
      have hz0 := h.ext.size
      refine good_grow (w' := w'.alloc (.cells #[] 83)) (v := .slice (some ⟨w'.heap.size, 0, none⟩) 0 0) (wanted_none rfl) ?_ ⟨_, rfl, hz0, Ob.new w' 83 []⟩ ((Ext.refl _).alloc _)
      simp [execOp, Act.eval, buildRow0, Sem.run_bind, Sem.run_pure, Result.andThen_ok]
    · intro b w' h hE
      have f3 : b.tmps.getD 3 undef = .pointer (some ⟨w.heap.size, 0, none⟩) := hE 3 (of_decide_eq_true (by kernel_rfl))
      exact good_field (wanted_none rfl) rfl f3 (by simp [go_sem]) rfl
    · intro b w' h hE
      have f32 : b.tmps.getD 32 undef = .pointer (some ⟨w.heap.size, 4, none⟩) := h.dep 3 _ 32 (by kernel_rfl) rfl rfl
      have c0 := cell_later h.ext m4.out
      exact good_load (wanted_none rfl) rfl f32 (by simp [go_sem, c0]) rfl
    · intro b w' h hE
      have f31 : ∃ bb, (b.tmps.getD 31 undef) = .slice (some ⟨bb, 0, none⟩) 0 0 ∧ (g1.val.heap.size ≤ bb ∧ Ob w' bb 83 []) := h.dep 2 _ 31 (by kernel_rfl) rfl rfl
      have f33 : b.tmps.getD 33 undef = .slice VA ll vc := h.dep 4 _ 33 (by kernel_rfl) rfl rfl
      have g33 : b.tmps[33]?.getD undef = .slice VA ll vc := by rw [← Array.getD_eq_getD_getElem?]; exact f33
      obtain ⟨bb, e31, hbb, hob⟩ := f31
      have g31 : b.tmps[31]?.getD undef = .slice (some ⟨bb, 0, none⟩) 0 0 := by rw [← Array.getD_eq_getD_getElem?]; exact e31
      obtain ⟨v17, w17, hr17, ho17, hx17⟩ := run_app_lit (ty := 35) tValP (src_sl Tryz.underlying35 (Sl.ext hvx.out (hXg.out.trans h.ext)) (rc_one l) (by omega)) (by unfold maxLen; omega) (by omega) hbb h.ext.size hob
      refine good_grow (w' := w17) (v := v17) (wanted_none rfl) ?_ (own_base ho17 (Nat.zero_le _)) hx17
      rw [← hll.out] at hr17
      simp [execOp, resolve, invoke, builtin, Act.eval, g31, g33, hr17, Sem.run_bind, Sem.run_pure, Result.andThen_ok]
    · intro b w' h hE
      have f3 : b.tmps.getD 3 undef = .pointer (some ⟨w.heap.size, 0, none⟩) := hE 3 (of_decide_eq_true (by kernel_rfl))
      exact good_field (wanted_none rfl) rfl f3 (by simp [go_sem]) rfl
    · intro b w' h hE
      have f35 : b.tmps.getD 35 undef = .pointer (some ⟨w.heap.size, 2, none⟩) := h.dep 6 _ 35 (by kernel_rfl) rfl rfl
      have c0 := cell_later h.ext m2.out
      exact good_load (wanted_none rfl) rfl f35 (by simp [go_sem, c0]) rfl
    · intro b w' h hE
      have f3 : b.tmps.getD 3 undef = .pointer (some ⟨w.heap.size, 0, none⟩) := hE 3 (of_decide_eq_true (by kernel_rfl))
      exact good_field (wanted_none rfl) rfl f3 (by simp [go_sem]) rfl
    · intro b w' h hE
      have f37 : b.tmps.getD 37 undef = .pointer (some ⟨w.heap.size, 3, none⟩) := h.dep 8 _ 37 (by kernel_rfl) rfl rfl
      have c0 := cell_later h.ext m3.out
      exact good_load (wanted_none rfl) rfl f37 (by simp [go_sem, c0]) rfl
    · intro b w' h hE
      have f36 : b.tmps.getD 36 undef = .int .i64 f := h.dep 7 _ 36 (by kernel_rfl) rfl rfl
      have g36 : b.tmps[36]?.getD undef = .int .i64 f := by rw [← Array.getD_eq_getD_getElem?]; exact f36
      have f38 : b.tmps.getD 38 undef = .int .i64 t := h.dep 9 _ 38 (by kernel_rfl) rfl rfl
      have g38 : b.tmps[38]?.getD undef = .int .i64 t := by rw [← Array.getD_eq_getD_getElem?]; exact f38
      exact good_run (wanted_none rfl) (by simp [execOp, Act.eval, go_sem, g36, g38, Sem.run_bind, Sem.run_pure, Result.andThen_ok]) rfl
    · intro b w' h hE
      have f30 : b.tmps.getD 30 undef = .int .i64 i := h.dep 1 _ 30 (by kernel_rfl) rfl rfl
      have g30 : b.tmps[30]?.getD undef = .int .i64 i := by rw [← Array.getD_eq_getD_getElem?]; exact f30
      have f34 : RwO w' (b.tmps.getD 34 undef) l := h.dep 5 _ 34 (by kernel_rfl) rfl rfl
      have f39 : b.tmps.getD 39 undef = .agg #[.int .i64 f, .int .i64 t] := h.dep 10 _ 39 (by kernel_rfl) rfl rfl
      have g39 : b.tmps[39]?.getD undef = .agg #[.int .i64 f, .int .i64 t] := by rw [← Array.getD_eq_getD_getElem?]; exact f39
      obtain ⟨A34, c34, q34⟩ := rwo_val f34
      rw [q34] at f34
      have g34 : b.tmps[34]?.getD undef = .slice A34 l.length c34 := by rw [← Array.getD_eq_getD_getElem?]; exact q34
      exact good_run (wanted_none rfl) (by simp [execOp, Act.eval, go_sem, g30, g34, g39, Sem.run_bind, Sem.run_pure, Result.andThen_ok]) ⟨A34, c34, rfl, f34⟩
    · intro b w' h hE
      have hz0 := h.ext.size
      refine good_grow (w' := w'.alloc (.cells #[.int .i64 0, .slice none 0 0, .int .i64 0, .int .i64 0] 59)) (v := .pointer (some ⟨w'.heap.size, 0, none⟩)) (wanted_none rfl) ?_ ⟨_, rfl, hz0, Ob.new w' _ _⟩ ((Ext.refl _).alloc _)
      simp [execOp, go_sem, Sem.run_bind, Sem.run_pure, Result.andThen_ok]
  · intro b w2 hX2 hd hz he' hf
    have e29 : b.tmps.getD 29 undef = .pointer (some ⟨w.heap.size, 1, none⟩) := hf 0 _ 29 (by omega) rfl rfl
    have e30 : b.tmps.getD 30 undef = .int .i64 i := hf 1 _ 30 (by omega) rfl rfl
    have f31 : ∃ bb, (b.tmps.getD 31 undef) = .slice (some ⟨bb, 0, none⟩) 0 0 ∧ (g1.val.heap.size ≤ bb ∧ Ob w2 bb 83 []) := hf 2 _ 31 (by omega) rfl rfl
    have e32 : b.tmps.getD 32 undef = .pointer (some ⟨w.heap.size, 4, none⟩) := hf 3 _ 32 (by omega) rfl rfl
    have e33 : b.tmps.getD 33 undef = .slice VA ll vc := hf 4 _ 33 (by omega) rfl rfl
    have f34 : RwO w2 (b.tmps.getD 34 undef) l := hf 5 _ 34 (by omega) rfl rfl
    have e35 : b.tmps.getD 35 undef = .pointer (some ⟨w.heap.size, 2, none⟩) := hf 6 _ 35 (by omega) rfl rfl
    have e36 : b.tmps.getD 36 undef = .int .i64 f := hf 7 _ 36 (by omega) rfl rfl
    have e37 : b.tmps.getD 37 undef = .pointer (some ⟨w.heap.size, 3, none⟩) := hf 8 _ 37 (by omega) rfl rfl
    have e38 : b.tmps.getD 38 undef = .int .i64 t := hf 9 _ 38 (by omega) rfl rfl
    have e39 : b.tmps.getD 39 undef = .agg #[.int .i64 f, .int .i64 t] := hf 10 _ 39 (by omega) rfl rfl
    have f40 : ∃ A cp, (b.tmps.getD 40 undef) = evV (.slice A l.length cp) ((i, l), (f, t)) ∧ RwO w2 (.slice A l.length cp) l := hf 11 _ 40 (by omega) rfl rfl
    have f7 : ∃ B, (b.tmps.getD 7 undef) = .pointer (some ⟨B, 0, none⟩) ∧ g1.val.heap.size ≤ B ∧ Ob w2 B 59 [.int .i64 0, .slice none 0 0, .int .i64 0, .int .i64 0] := hf 12 _ 7 (by omega) rfl rfl
    have e := frame_puts hd hz he'
    obtain ⟨X, hXx⟩ : ∃ X : Nat → Value, ∀ d, b.tmps.getD d undef = X d := ⟨_, fun _ => rfl⟩
    rw [hXx] at e29 e30 e32 e33 e35 e36 e37 e38 e39 f31 f34 f40 f7
    obtain ⟨bb31, q31, -, -⟩ := f31
    obtain ⟨A34, c34, q34⟩ := rwo_val f34
    obtain ⟨A40, c40, q40, h40⟩ := f40
    obtain ⟨B7, q7, hB7, oB7⟩ := f7
    rw [show dstsOf _ = [29, 30, 31, 32, 33, 34, 35, 36, 37, 38, 39, 40, 7] from rfl] at e
    simp only [List.foldl_cons, List.foldl_nil, hXx, Act.put, List.setIfInBounds_toArray, List.set_cons_succ, List.set_cons_zero] at e
    rw [e29, e30, e32, e33, e35, e36, e37, e38, e39, q31, q34, q40, q7] at e
    rw [q34] at f34
    replace f34 := hide f34
    clear hf he' hz hd hXx e29 e30 e32 e33 e35 e36 e37 e38 e39 q31 q34 q40 q7
    subst e
    have hzw := hX2.size
    simp only [List.drop_succ_cons, List.drop_zero]
    have z0 := oB7.cell 0 rfl
    have z1 := oB7.cell 1 rfl
    have z2 := oB7.cell 2 rfl
    have z3 := oB7.cell 3 rfl
    have y0 := oB7.free 0
    have y1 := oB7.free 1
    have y2 := oB7.free 2
    have y3 := oB7.free 3
    have hlt7 := oB7.lt
    haveI : In B7 w2 := ⟨hlt7⟩
    have hO3 := hide ((((oB7.set 0 (.int .i64 i)).set 1 (.slice A40 l.length c40)).set 2 (.int .i64 f)).set 3 (.int .i64 t))
    have hX3 := hide ((((hX2.setCell (p := ⟨B7, 0, none⟩) hB7 (.int .i64 i)).setCell (p := ⟨B7, 1, none⟩) hB7 (.slice A40 l.length c40)).setCell (p := ⟨B7, 2, none⟩) hB7 (.int .i64 f)).setCell (p := ⟨B7, 3, none⟩) hB7 (.int .i64 t))
    have hR3 := hide (h40.stay (S := [B7]) (((((Fr.refl [B7] w2).setCell ⟨B7, 0, none⟩ (.int .i64 i) (.inl (by simp))).setCell ⟨B7, 1, none⟩ (.slice A40 l.length c40) (.inl (by simp))).setCell ⟨B7, 2, none⟩ (.int .i64 f) (.inl (by simp))).setCell ⟨B7, 3, none⟩ (.int .i64 t) (.inl (by simp))) (fun b hb => by rw [List.mem_singleton.1 hb]; exact oB7.nt (by decide)))
    replace oB7 := hide oB7
    clear h40
    go_wp2_with fail
    generalize hw3 : (((w2.setCell ⟨B7, 0, none⟩ (.int .i64 i)).setCell ⟨B7, 1, none⟩ (.slice A40 l.length c40)).setCell ⟨B7, 2, none⟩ (.int .i64 f)).setCell ⟨B7, 3, none⟩ (.int .i64 t) = w3 at *
    clear z0 z1 z2 z3 y0 y1 y2 y3 oB7 hw3
    clear hX2 hzw hlt7
    have hS3 := hh.out.ext (hXg.out.trans hX3.out)
    have s1 := hide (hS3.ob.cell 2 rfl)
    have x0 := hide (hO3.out.cell 0 rfl)
    have x1 := hide (hO3.out.cell 1 rfl)
    have x2 := hide (hO3.out.cell 2 rfl)
    have x3 := hide (hO3.out.cell 3 rfl)
    clear hS3
    refine wp_region_loose_tail 7 [(.is (.pointer (some ⟨r, 1, none⟩))), (.is (.pointer (some ⟨r, 1, none⟩))), (.is (.pointer (some ⟨r, 1, none⟩))), (.is (.pointer (some ⟨r, 2, none⟩))), (.is (.slice EA L.length ec)), (.is (evV (.slice A40 l.length c40) ((i, l), (f, t)))), (.st (fun u w => Sl w [] 4 u 1 (evO (.slice A40 l.length c40) ((i, l), (f, t)))) (fun _ _ _ h k => Sl.ext h k))] (by kernel_rfl) (by kernel_rfl) (by kernel_rfl) (by kernel_rfl) (by kernel_rfl) (by kernel_rfl) (by kernel_rfl) (by kernel_rfl) (by kernel_rfl) ?_ ?_
    · refine ⟨?_, ?_, ?_, ?_, ?_, ?_, ?_, trivial⟩
      · intro b w' h hE
        have f0 : b.tmps.getD 0 undef = .pointer (some ⟨r, 1, none⟩) := hE 0 (of_decide_eq_true (by kernel_rfl))
        exact good_move (wanted_none rfl) rfl f0
      · intro b w' h hE
        have f0 : b.tmps.getD 0 undef = .pointer (some ⟨r, 1, none⟩) := hE 0 (of_decide_eq_true (by kernel_rfl))
        exact good_move (wanted_none rfl) rfl f0
      · intro b w' h hE
        have f42 : b.tmps.getD 42 undef = .pointer (some ⟨r, 1, none⟩) := h.dep 1 _ 42 (by kernel_rfl) rfl rfl
        exact good_nilCheck (wanted_none rfl) rfl f42 rfl
      · intro b w' h hE
        have f43 : b.tmps.getD 43 undef = .pointer (some ⟨r, 1, none⟩) := h.dep 2 _ 43 (by kernel_rfl) rfl rfl
        exact good_field (wanted_none rfl) rfl f43 (by simp [go_sem]) rfl
      · intro b w' h hE
        have f44 : b.tmps.getD 44 undef = .pointer (some ⟨r, 2, none⟩) := h.dep 3 _ 44 (by kernel_rfl) rfl rfl
        have c0 := cell_later h.ext s1.out
        exact good_load (wanted_none rfl) rfl f44 (by simp [go_sem, c0]) rfl
      · intro b w' h hE
        have f7 : b.tmps.getD 7 undef = .pointer (some ⟨B7, 0, none⟩) := hE 7 (of_decide_eq_true (by kernel_rfl))
        have c0 := cell_later h.ext x0.out
        have c1 := cell_later h.ext x1.out
        have c2 := cell_later h.ext x2.out
        have c3 := cell_later h.ext x3.out
        exact good_load (wanted_none rfl) rfl f7 (by simp [go_sem, c0, c1, c2, c3]) rfl
      · intro b w' h hE
        have f46 : b.tmps.getD 46 undef = evV (.slice A40 l.length c40) ((i, l), (f, t)) := h.dep 5 _ 46 (by kernel_rfl) rfl rfl
        have g46 : b.tmps[46]?.getD undef = evV (.slice A40 l.length c40) ((i, l), (f, t)) := by rw [← Array.getD_eq_getD_getElem?]; exact f46
        have this := buildEv A40 l.length c40 ((i, l), (f, t)) w'
        refine good_grow (w' := w'.alloc (.cells (evO (.slice A40 l.length c40) ((i, l), (f, t))).toArray 59)) (v := .slice (some ⟨w'.heap.size, 0, none⟩) 1 1) (wanted_none rfl) ?_ (evO_new _ _ w') ((Ext.refl _).alloc _)
        simp [execOp, Act.eval, g46, this, Sem.run_bind, Sem.run_pure, Result.andThen_ok]; rfl
    · intro b w2 hX2 hd hz he' hf
      have e41 : b.tmps.getD 41 undef = .pointer (some ⟨r, 1, none⟩) := hf 0 _ 41 (by omega) rfl rfl
      have e42 : b.tmps.getD 42 undef = .pointer (some ⟨r, 1, none⟩) := hf 1 _ 42 (by omega) rfl rfl
      have e43 : b.tmps.getD 43 undef = .pointer (some ⟨r, 1, none⟩) := hf 2 _ 43 (by omega) rfl rfl
      have e44 : b.tmps.getD 44 undef = .pointer (some ⟨r, 2, none⟩) := hf 3 _ 44 (by omega) rfl rfl
      have e45 : b.tmps.getD 45 undef = .slice EA L.length ec := hf 4 _ 45 (by omega) rfl rfl
      have e46 : b.tmps.getD 46 undef = evV (.slice A40 l.length c40) ((i, l), (f, t)) := hf 5 _ 46 (by omega) rfl rfl
      have f47 : Sl w2 [] 4 (b.tmps.getD 47 undef) 1 (evO (.slice A40 l.length c40) ((i, l), (f, t))) := hf 6 _ 47 (by omega) rfl rfl
      have e := frame_puts hd hz he'
      obtain ⟨X, hXx⟩ : ∃ X : Nat → Value, ∀ d, b.tmps.getD d undef = X d := ⟨_, fun _ => rfl⟩
      rw [hXx] at e41 e42 e43 e44 e45 e46 f47
      obtain ⟨A47, c47, q47⟩ := sl_form f47
      rw [show dstsOf _ = [41, 42, 43, 44, 45, 46, 47] from rfl] at e
      simp only [List.foldl_cons, List.foldl_nil, hXx, Act.put, List.setIfInBounds_toArray, List.set_cons_succ, List.set_cons_zero] at e
      rw [e41, e42, e43, e44, e45, e46, q47] at e
      rw [q47] at f47
      replace f47 := hide f47
      clear hf he' hz hd hXx e41 e42 e43 e44 e45 e46 q47
      subst e
      have hzw := hX2.size
      simp only [List.drop_succ_cons, List.drop_zero]
      have hXa := hide (hX3.out.trans hX2)
      have hSa := hh.out.ext (hXg.out.trans hXa.out)
      have hOw := hSa.own
      have hGo := hSa.gone
      have hOb := hSa.ob
      have hbw : base ≤ w2.heap.size := by have h1 := hXg.out.size; have h2 := hXa.out.size; omega
      have hR4 := hide (hR3.out.ext hX2)
      have hO4 := hide (hO3.out.ext hX2)
      have hOr4 := hide (hOr.out.ext hXa.out)
      have hnr := hOb.not_own hOw.1 (by decide)
      have hlb : ∀ x ∈ r :: (ob (.slice EA L.length ec) ++ ob (.slice GA L.length gc)), x < w.heap.size := hlb0.out
      replace hSa := hide hSa
      replace hlb := hide hlb
      go_wp2_with (at_builtin; (refine wpl_app tEvs rfl (.tmp 45) (.tmp 47) rfl rfl hOw.1 rfl (src_sl Tryz.underlying46 f47.out evO_one (by omega)) (by unfold maxLen; omega) (by omega) hbw ?_; intro v8 w8 ho8 hg8 hd8; have OB8 := hOb.grown hg8 (fun e => hnr e.symm); have z1 := OB8.cell 2 rfl; have z2 := OB8.cell 3 rfl; have zf1 := OB8.free 2; have zf2 := OB8.free 3; have zlt := OB8.lt; haveI : In r w8 := ⟨zlt⟩; obtain ⟨A8, c8, q8⟩ := own_form ho8; subst q8; replace OB8 := hide OB8; replace ho8 := hide ho8; clear hd8))
      dsimp only [onN, Exit.then]
      have hF8 : Fr (r :: (ob (.slice EA L.length ec) ++ ob (.slice GA L.length gc))) w2 w8 := (fr_grown hg8).more (fun k _ hk => List.mem_cons_of_mem _ (List.mem_append_left _ hk))
      have OB9 := OB8.out.set 2 (.slice A8 (L.length + 1) c8)
      have hF9 := hF8.setCell ⟨r, 2, none⟩ (.slice A8 (L.length + 1) c8) (.inl (by simp))
      have G9 := own_stay (own_stay hGo (fr_grown hg8) (own_nt hOw.1 (by decide))) ((Fr.refl [r] w8).setCell ⟨r, 2, none⟩ (.slice A8 (L.length + 1) c8) (.inl (by simp))) (fun b hb => by rw [List.mem_singleton.1 hb]; exact OB8.out.nt (by decide))
      have E9 := own_stay ho8.out ((Fr.refl [r] w8).setCell ⟨r, 2, none⟩ (.slice A8 (L.length + 1) c8) (.inl (by simp))) (fun b hb => by rw [List.mem_singleton.1 hb]; exact OB8.out.nt (by decide))
      have hb9 : base ≤ w8.heap.size := by have := hg8.size; omega
      replace hF8 := hide hF8
      replace hF9 := hide hF9
      replace OB9 := hide OB9
      replace E9 := hide E9
      have G9e := own_ext G9 ((Ext.refl _).alloc (.cells #[.bool false] 4))
      have hnG := OB9.out.not_own G9 (by decide)
      have hb10 : base ≤ ((w8.setCell ⟨r, 2, none⟩ (.slice A8 (L.length + 1) c8)).alloc (.cells #[.bool false] 4)).heap.size := by rw [World.size_alloc]; simp; omega
      replace G9 := hide G9
      replace G9e := hide G9e
      have hSn := hide (fun (e : TypeId) (e1 : 51 ≠ e) (e2 : 59 ≠ e) (e3 : 4 ≠ e) => sdNt hSa.out e1 e2 e3)
      have hsrcB : Hid (Src Tryz.prog 1 47 (.slice (some ⟨w8.heap.size, 0, none⟩) 1 1) 1 [.bool false] ((w8.setCell ⟨r, 2, none⟩ (.slice A8 (L.length + 1) c8)).alloc (.cells #[.bool false] 4))) := by
        have := src_one Tryz.underlying47 (w8.setCell ⟨r, 2, none⟩ (.slice A8 (L.length + 1) c8)) (.bool false) 4 rfl
        rwa [show (w8.setCell ⟨r, 2, none⟩ (.slice A8 (L.length + 1) c8)).heap.size = w8.heap.size by simp] at this
      go_wp2_with (at_builtin; (refine wpl_app tBool rfl (.tmp 55) (.tmp 56) rfl rfl G9e.out rfl hsrcB.out (by unfold maxLen; omega) (by omega) hb10 ?_; intro v10 w10 ho10 hg10 hd10; obtain ⟨A10, c10, q10⟩ := own_form ho10; subst q10; have OB10 := (OB9.out.alloc (.cells #[.bool false] 4)).grown hg10 (fun e => hnG e.symm); have p2 := OB10.cell 3 rfl; have pf2 := OB10.free 3; have plt := OB10.lt; haveI : In r w10 := ⟨plt⟩; replace ho10 := hide ho10; replace OB10 := hide OB10; replace hg10 : World.grownBy _ w10 (Value.slice GA L.length gc).ownBlock := hg10; replace hg10 := hide hg10; clear hd10))
      have OBF := OB10.out.set 3 (.slice A10 (L.length + 1) c10)
      have hG10 := fr_grown hg10.out
      have FB : Fr (r :: (ob (.slice EA L.length ec) ++ ob (.slice GA L.length gc))) w2 (w10.setCell ⟨r, 3, none⟩ (.slice A10 (L.length + 1) c10)) := ((hF9.out.alloc _).trans (hG10.more (fun k _ hk => List.mem_cons_of_mem _ (List.mem_append_right _ hk)))).setCell ⟨r, 3, none⟩ _ (.inl (by simp))
      have hr1 := (Fr.refl [r] w10).setCell ⟨r, 3, none⟩ (.slice A10 (L.length + 1) c10) (.inl (by simp))
      have EF := own_stay (own_stay (own_ext E9.out ((Ext.refl _).alloc (.cells #[.bool false] 4))) hG10 (own_nt G9e.out (by decide))) hr1 (fun b hb => by rw [List.mem_singleton.1 hb]; exact OB10.out.nt (by decide))
      have GF := own_stay ho10.out hr1 (fun b hb => by rw [List.mem_singleton.1 hb]; exact OB10.out.nt (by decide))
      generalize hwF : w10.setCell ⟨r, 3, none⟩ (.slice A10 (L.length + 1) c10) = wF at *
      clear hwF hr1 hG10
      have hbig : w.heap.size + 2 ≤ g1.val.heap.size := by have := g1.size; simp only [World.size_alloc] at this; omega
      have O7F := hO4.out.fr FB (fun hm => by have := hlb.out B7 hm; omega)
      have OrF := hOr4.out.fr FB (fun hm => by have := hlb.out _ hm; omega)
      have RF := hR4.out.stay FB (hSn.out _ (by decide) (by decide) (by decide))
      have u1 := OBF.cell 2 rfl
      have x1' := O7F.cell 1 rfl
      have x2' := O7F.cell 2 rfl
      have x3' := O7F.cell 3 rfl
      have rl := OBF.lt
      have bl7 := O7F.lt
      have rsl := OrF.lt
      haveI : In r wF := ⟨rl⟩
      haveI : In B7 wF := ⟨bl7⟩
      haveI : In (w.heap.size + 1) wF := ⟨rsl⟩
      have t0 := OrF.cell 0 rfl
      have t1 := OrF.cell 1 rfl
      have t2 := OrF.cell 2 rfl
      have t3 := OrF.cell 3 rfl
      have t4 := OrF.cell 4 rfl
      have t5 := OrF.cell 5 rfl
      have l0 := OrF.free 0
      have l1 := OrF.free 1
      have l2 := OrF.free 2
      have l3 := OrF.free 3
      have l4 := OrF.free 4
      have l5 := OrF.free 5
      have hXw2 := hide (hXg.out.trans hXa.out)
      have hev := hide hh.out.evs
      have hSl : S.2.length = L.length := by rw [← hev.out, List.length_map]
      have key : Hid (∀ W', Fr [w.heap.size + 1] wF W' → RwO W' (.slice A40 l.length c40) l ∧ Sd W' base r sv (S.1, S.2 ++ [((i, l), (f, t), false)]) (.slice A8 (L.length + 1) c8) (.slice A10 (L.length + 1) c10) (L ++ [(.slice A40 l.length c40, ((i, l), (f, t), false))]) ∧ Fr (r :: (ob (.slice EA L.length ec) ++ ob (.slice GA L.length gc))) w W') := by
        intro W' hQ
        have hnt : ∀ {e : TypeId}, 39 ≠ e → ∀ b ∈ [w.heap.size + 1], NT wF e b := fun he b hb => by rw [List.mem_singleton.1 hb]; exact OrF.nt he
        refine ⟨RF.stay hQ (hnt (by decide)), ?_, ?_⟩
        · have hown : OwnEv wF base (.slice A8 (L.length + 1) c8) (L ++ [(.slice A40 l.length c40, ((i, l), (f, t), false))]) := by
            refine ⟨?_, fun p hp => ?_⟩
            · rw [List.length_append, List.length_singleton, List.flatMap_append]
              exact EF
            · rcases List.mem_append.1 hp with hp | hp
              · exact (((hSa.out.own.2 p hp)).stay FB (hSn.out _ (by decide) (by decide) (by decide)))
              · rw [List.mem_singleton.1 hp]; exact RF
          have hgone : wF.ownsRow base 4 1 (.slice A10 (L.length + 1) c10) (L ++ [(Value.slice A40 l.length c40, ((i, l), (f, t), false))]).length (gnO (L ++ [(.slice A40 l.length c40, ((i, l), (f, t), false))])) := by
            rw [List.length_append, List.length_singleton]
            unfold gnO
            rw [List.map_append]
            exact GF
          exact Sd.stay (S := (S.1, S.2 ++ [((i, l), (f, t), false)])) ⟨OBF, hown, hgone, by rw [List.map_append, hev.out]; rfl, hh.out.rb⟩ hQ (fun b hb => ⟨hnt (by decide) b hb, hnt (by decide) b hb, hnt (by decide) b hb, hnt (by decide) b hb⟩)
        · exact (((Fr.of_ext hXw2.out).trans FB).then hQ (fun b hb => .inr (by rw [List.mem_singleton.1 hb]; omega)))
      have hz41 : (B7 = w.heap.size + 1) = False := eq_false (by omega)
      have hz42 : (w.heap.size + 1 = B7) = False := eq_false (by omega)
      replace OBF := hide OBF
      replace FB := hide FB
      replace EF := hide EF
      replace GF := hide GF
      replace O7F := hide O7F
      replace OrF := hide OrF
      replace RF := hide RF
      refine wp_region_gw_tail 10 (by kernel_rfl) (by kernel_rfl) ?_
      simp only [List.take_succ_cons, List.take_zero, List.drop_succ_cons, List.drop_zero]
      repeat (go_big_quiet_step (fail))
      refine wpQuiet_nil ?_
      intro g3
      have OG := OrF.out.ext g3.grown
      have v0 := OG.cell 0 rfl
      have vf0 := OG.free 0
      have v1 := OG.cell 1 rfl
      have vf1 := OG.free 1
      have v2 := OG.cell 2 rfl
      have vf2 := OG.free 2
      have v3 := OG.cell 3 rfl
      have vf3 := OG.free 3
      have v4 := OG.cell 4 rfl
      have vf4 := OG.free 4
      have v5 := OG.cell 5 rfl
      have vf5 := OG.free 5
      replace OG := hide OG
      clear t0 t1 t2 t3 t4 t5 l0 l1 l2 l3 l4 l5
      go_wp2_with fail
      first | go_returns | refine bodyPost_ret (by simp [results, Tryz.results49, go_sem, v0, v1, v2, v3, v4, v5]; try rfl) rfl ?_
      refine ⟨.slice A40 l.length c40, .slice A8 (L.length + 1) c8, .slice A10 (L.length + 1) c10, L ++ [(.slice A40 l.length c40, ((i, l), (f, t), false))], ?_, key.out _ ?_⟩
      · rw [hSl]; first | rfl | simp
      · repeat refine Fr.setCell ?_ _ _ (.inl (by simp))
        exact Fr.of_ext g3.grown
end Go.Proofs.YtajelkkiijdegaaGreat
