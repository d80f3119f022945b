/-
  A helper of ours: no claim of its own. Layer 9 (step): the document's side: the other sign, parts, jumps put together.
-/
import Derived.Test.YtjigchaahbbkpabStepX
import Derived.Test.YtjigchaahbbkpabStepV
set_option linter.unusedVariables false
set_option linter.unusedSimpArgs false
namespace Go.Proofs.Ytjigchaahbbkpab
open Go.RowKit
attribute [local go_sem] GW.cell GW.frozen In.eq_true In.le_true In.ne In.ne' In.ne_add In.ne_add' In.lt_add Upto.le_true Upto.le_add Upto.lt_add
set_option maxHeartbeats 8000000 in
set_option maxRecDepth 100000 in
theorem refNeg_c (l : List Jp) (v : Value) (w : World) (h : Jw w [] v l) : Calls Try.prog 24 #[v] w fun e w' => ∃ v', e = .returned (.tuple #[v', .int .i64 (ngE l)]) ∧ OwnJ w' w.heap.size v' (ngR l) ∧ Ext w w' := by
  have hm := hide (refStepMay_c l v w h)
  obtain ⟨A, cap, rfl, hl, hmc, hat⟩ := jw_form h
  unfold maxLen at hmc
  replace hat := hide hat
  unfold ngE ngR
  clear h
  cases hb : mayJ l
  · rw [hb] at hm
    rw [if_neg (by decide), if_neg (by decide)]
    replace hb := hide hb
    clear hat
    go_enter Try.func24, Try.ntmps24
    go_wp2_with (go_at_call 14; (with_reducible refine seq_gw hm.out ?_); intro g)
    go_returns
    exact ⟨_, rfl, World.ownsRow_nil _ _ _ _, g.grown⟩
  · rw [hb] at hm
    rw [if_pos rfl, if_pos rfl]
    have hnet := hide (mayJ_net hb)
    have hn : l.length ≤ 1024 := mayJ_len hb
    have hnI : (l.length : Int) ≤ 4096 := by omega
    obtain ⟨R, hR⟩ : ∃ R, R = ngL l := ⟨_, rfl⟩
    rw [← hR]
    replace hR := hide hR
    replace hb := hide hb
    go_enter Try.func24, Try.ntmps24
    go_wp2_with (go_at_call 14; (with_reducible refine seq_gw hm.out ?_); intro g; have hlit := hide (World.ownsRow_lit (base := w.heap.size) (e := 38) (size := 2) g.val #[] 0 (GW.size g) (by decide) rfl))
    go_loopg [4, 5] l.length (fun gh s i wr => ∃ (k : Nat) (acc : List Jp), i = .int .i64 k ∧ k + gh = l.length ∧ OwnJ wr w.heap.size s acc ∧ acc.length ≤ k ∧ Hid (acc = ngL (l.take k)) ∧ Ext w wr)
    case atStart => exact ⟨0, [], rfl, by omega, hlit.out, Nat.le_refl _, rfl, g.grown.alloc _⟩
    case round =>
      obtain ⟨k, acc, rfl, hk, ho, hak, hacc, hX⟩ := hrel
      have hzX := hX.size
      by_cases hlt : k < l.length
      · obtain ⟨x, hx⟩ : ∃ x, l[k]? = some x := ⟨_, List.getElem?_eq_getElem hlt⟩
        obtain ⟨b0, o0, rfl, -, hbl, c0, c1⟩ := hat.out k x hx
        have k0 := cell_later hX c0
        have k1 := cell_later hX c1
        have hbr : b0 < wr.heap.size := block_lt_of_cell k0
        obtain ⟨n1, n2⟩ := hnet.out x (List.mem_of_getElem? hx)
        have hnx := ng_next hx
        rw [← hacc.out] at hnx
        replace hnx := hide hnx
        clear c0 c1 hx hacc
        obtain ⟨xp, xn⟩ := x
        simp only at n1 n2 k0 k1
        have hws : IntKind.i64.wrap (-xn) = -xn := by simp [IntKind.wrap, IntKind.bits, IntKind.signed]; omega
        obtain ⟨C, ccap, rfl⟩ := own_form ho
        replace ho := hide ho
        replace k0 := hide k0
        replace k1 := hide k1
        go_wp2_with fail
        refine wp_region_list_tail 14 [(.is (.slice C acc.length ccap)), (.is (.slice (some ⟨b0, o0, none⟩) l.length cap)), (.is (.int .i64 k)), (.is (.pointer (some ⟨b0, o0 + k * 2, none⟩))), (.is (.pointer (some ⟨b0, o0 + k * 2, none⟩))), (.is (.int .i64 xp)), (.is (.slice (some ⟨b0, o0, none⟩) l.length cap)), (.is (.int .i64 k)), (.is (.pointer (some ⟨b0, o0 + k * 2, none⟩))), (.is (.pointer (some ⟨b0, o0 + k * 2 + 1, none⟩))), (.is (.int .i64 xn)), (.is (.int .i64 (-xn))), (.is (jm (xp, -xn))), oneJ (xp, -xn)] (by kernel_rfl) (by kernel_rfl) (by kernel_rfl) (by kernel_rfl) (by kernel_rfl) (by kernel_rfl) (by kernel_rfl) ?_ ?_
        · refine ⟨?_, ?_, ?_, ?_, ?_, ?_, ?_, ?_, ?_, ?_, ?_, ?_, ?_, ?_, trivial⟩
          · intro b w' h hE
            have f4 : b.tmps.getD 4 undef = .slice C acc.length ccap := hE 4 (of_decide_eq_true (by kernel_rfl))
            exact good_move (wanted_none rfl) rfl f4
          · intro b w' h hE
            have f0 : b.tmps.getD 0 undef = .slice (some ⟨b0, o0, none⟩) l.length cap := hE 0 (of_decide_eq_true (by kernel_rfl))
            exact good_move (wanted_none rfl) rfl f0
          · intro b w' h hE
            have f5 : b.tmps.getD 5 undef = .int .i64 k := hE 5 (of_decide_eq_true (by kernel_rfl))
            exact good_move (wanted_none rfl) rfl f5
          · intro b w' h hE
            have f17 : b.tmps.getD 17 undef = .slice (some ⟨b0, o0, none⟩) l.length cap := h.dep 1 _ 17 (by kernel_rfl) rfl rfl
            have f18 : b.tmps.getD 18 undef = .int .i64 k := h.dep 2 _ 18 (by kernel_rfl) rfl rfl
            exact good_index (wanted_none rfl) rfl f17 f18 (by simp [go_sem, hlt]) rfl
          · intro b w' h hE
            have f19 : b.tmps.getD 19 undef = .pointer (some ⟨b0, o0 + k * 2, none⟩) := h.dep 3 _ 19 (by kernel_rfl) rfl rfl
            exact good_field (wanted_none rfl) rfl f19 (by simp [go_sem]) rfl
          · intro b w' h hE
            have f20 : b.tmps.getD 20 undef = .pointer (some ⟨b0, o0 + k * 2, none⟩) := h.dep 4 _ 20 (by kernel_rfl) rfl rfl
            have c0 := cell_later h.ext k0.out
            exact good_load (wanted_none rfl) rfl f20 (by simp [go_sem, c0]) rfl
          · intro b w' h hE
            have f0 : b.tmps.getD 0 undef = .slice (some ⟨b0, o0, none⟩) l.length cap := hE 0 (of_decide_eq_true (by kernel_rfl))
            exact good_move (wanted_none rfl) rfl f0
          · intro b w' h hE
            have f5 : b.tmps.getD 5 undef = .int .i64 k := hE 5 (of_decide_eq_true (by kernel_rfl))
            exact good_move (wanted_none rfl) rfl f5
          · intro b w' h hE
            have f22 : b.tmps.getD 22 undef = .slice (some ⟨b0, o0, none⟩) l.length cap := h.dep 6 _ 22 (by kernel_rfl) rfl rfl
            have f23 : b.tmps.getD 23 undef = .int .i64 k := h.dep 7 _ 23 (by kernel_rfl) rfl rfl
            exact good_index (wanted_none rfl) rfl f22 f23 (by simp [go_sem, hlt]) rfl
          · intro b w' h hE
            have f24 : b.tmps.getD 24 undef = .pointer (some ⟨b0, o0 + k * 2, none⟩) := h.dep 8 _ 24 (by kernel_rfl) rfl rfl
            exact good_field (wanted_none rfl) rfl f24 (by simp [go_sem]) rfl
          · intro b w' h hE
            have f25 : b.tmps.getD 25 undef = .pointer (some ⟨b0, o0 + k * 2 + 1, none⟩) := h.dep 9 _ 25 (by kernel_rfl) rfl rfl
            have c0 := cell_later h.ext k1.out
            exact good_load (wanted_none rfl) rfl f25 (by simp [go_sem, c0]) rfl
          · intro b w' h hE
            have f26 : b.tmps.getD 26 undef = .int .i64 xn := h.dep 10 _ 26 (by kernel_rfl) rfl rfl
            have g26 : b.tmps[26]?.getD undef = .int .i64 xn := by rw [← Array.getD_eq_getD_getElem?]; exact f26
            skip
            exact good_run (wanted_none rfl) (by simp [execOp, Act.eval, go_sem, g26, Sem.run_bind, Sem.run_pure, Result.andThen_ok, hws]) rfl
          · intro b w' h hE
            have f21 : b.tmps.getD 21 undef = .int .i64 xp := h.dep 5 _ 21 (by kernel_rfl) rfl rfl
            have f27 : b.tmps.getD 27 undef = .int .i64 (-xn) := h.dep 11 _ 27 (by kernel_rfl) rfl rfl
            have g21 : b.tmps[21]?.getD undef = .int .i64 xp := by rw [← Array.getD_eq_getD_getElem?]; exact f21
            have g27 : b.tmps[27]?.getD undef = .int .i64 (-xn) := by rw [← Array.getD_eq_getD_getElem?]; exact f27
            exact good_run (wanted_none rfl) (by simp [execOp, Act.eval, go_sem, g21, g27, Sem.run_bind, Sem.run_pure, Result.andThen_ok]) rfl
          · intro b w' h hE
            have f28 : b.tmps.getD 28 undef = jm (xp, -xn) := h.dep 12 _ 28 (by kernel_rfl) rfl rfl
            have g28 : b.tmps[28]?.getD undef = jm (xp, -xn) := by rw [← Array.getD_eq_getD_getElem?]; exact f28
            have := buildJ1 (xp, -xn) w'
            refine good_grow (w' := w'.alloc (.cells #[.int .i64 ((xp, -xn)).1, .int .i64 ((xp, -xn)).2] 38)) (v := .slice (some ⟨w'.heap.size, 0, none⟩) 1 1) (wanted_none rfl) ?_ (oneJ_new (xp, -xn) w') ((Ext.refl _).alloc _)
            simp [execOp, Act.eval, g28, this, Sem.run_bind, Sem.run_pure, Result.andThen_ok]
        · intro b w2 hX2 hd hz he' hf
          have e16 : b.tmps.getD 16 undef = .slice C acc.length ccap := hf 0 _ 16 (by omega) rfl rfl
          have e17 : b.tmps.getD 17 undef = .slice (some ⟨b0, o0, none⟩) l.length cap := hf 1 _ 17 (by omega) rfl rfl
          have e18 : b.tmps.getD 18 undef = .int .i64 k := hf 2 _ 18 (by omega) rfl rfl
          have e19 : b.tmps.getD 19 undef = .pointer (some ⟨b0, o0 + k * 2, none⟩) := hf 3 _ 19 (by omega) rfl rfl
          have e20 : b.tmps.getD 20 undef = .pointer (some ⟨b0, o0 + k * 2, none⟩) := hf 4 _ 20 (by omega) rfl rfl
          have e21 : b.tmps.getD 21 undef = .int .i64 xp := hf 5 _ 21 (by omega) rfl rfl
          have e22 : b.tmps.getD 22 undef = .slice (some ⟨b0, o0, none⟩) l.length cap := hf 6 _ 22 (by omega) rfl rfl
          have e23 : b.tmps.getD 23 undef = .int .i64 k := hf 7 _ 23 (by omega) rfl rfl
          have e24 : b.tmps.getD 24 undef = .pointer (some ⟨b0, o0 + k * 2, none⟩) := hf 8 _ 24 (by omega) rfl rfl
          have e25 : b.tmps.getD 25 undef = .pointer (some ⟨b0, o0 + k * 2 + 1, none⟩) := hf 9 _ 25 (by omega) rfl rfl
          have e26 : b.tmps.getD 26 undef = .int .i64 xn := hf 10 _ 26 (by omega) rfl rfl
          have e27 : b.tmps.getD 27 undef = .int .i64 (-xn) := hf 11 _ 27 (by omega) rfl rfl
          have e28 : b.tmps.getD 28 undef = jm (xp, -xn) := hf 12 _ 28 (by omega) rfl rfl
          have f9 : Jw w2 [] (b.tmps.getD 29 undef) [(xp, -xn)] := hf 13 _ 29 (by omega) rfl rfl
          have e := frame_puts hd hz he'
          obtain ⟨X, hXx⟩ : ∃ X : Nat → Value, ∀ d, b.tmps.getD d undef = X d := ⟨_, fun _ => rfl⟩
          rw [hXx] at e16 e17 e18 e19 e20 e21 e22 e23 e24 e25 e26 e27 e28 f9
          obtain ⟨A9, c9, e99, -, -, -⟩ := jw_form f9
          rw [show dstsOf _ = [16, 17, 18, 19, 20, 21, 22, 23, 24, 25, 26, 27, 28, 29] from rfl] at e
          simp only [List.foldl_cons, List.foldl_nil, hXx, Act.put, List.setIfInBounds_toArray, List.set_cons_succ, List.set_cons_zero] at e
          rw [e16, e17, e18, e19, e20, e21, e22, e23, e24, e25, e26, e27, e28, e99] at e
          rw [e99] at f9
          replace f9 := hide f9
          clear hf he' hz hd hXx e16 e17 e18 e19 e20 e21 e22 e23 e24 e25 e26 e27 e28 e99
          subst e
          have hzw := hX2.size
          simp only [List.drop_succ_cons, List.drop_zero]
          go_wp2_with (at_builtin; (refine wpl_app tJmp rfl (.tmp 16) (.tmp 29) rfl rfl (own_ext ho.out hX2) rfl (src_sl Try.underlying22 f9.out (ps_one _) (by omega)) (by unfold maxLen; simp only [List.length_singleton]; omega) (by simp only [List.length_singleton]; omega) (by omega) ?_; intro v8 w8 ho8 hg8 _; have hX8 := hide (ext_grown (hX.trans hX2) hg8 (fun q hq => (ho.out.lt q hq).1))))
          go_roundg (l.length - (k + 1))
          case measure => omega
          case rel => exact ⟨k + 1, acc ++ [(xp, -xn)], by go_num, by omega, own_appJ ho8, by rw [List.length_append, List.length_singleton]; omega, hnx.out.symm, hX8.out⟩
      · have hk' : k = l.length := by omega
        have hge : (l.length : Int) ≤ k := by omega
        have hR2 : Hid (R = acc) := by show _ = _; have := hacc.out; rw [hk', List.take_length] at this; rw [hR.out]; exact this.symm
        replace hk' := hide hk'
        clear hacc hR
        obtain ⟨C, ccap, rfl⟩ := own_form ho
        replace ho := hide ho
        go_wp2_with fail
        go_returns
        rw [hR2.out]
        exact ⟨_, rfl, ho.out, hX⟩
end Go.Proofs.Ytjigchaahbbkpab
