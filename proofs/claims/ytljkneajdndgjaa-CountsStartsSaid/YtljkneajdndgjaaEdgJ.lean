/-
  A helper of ours: no claim of its own. Layer 10 (edge): a row's jumps, by the document.
-/
import Derived.Test.YtljkneajdndgjaaEdgF
set_option linter.unusedVariables false
set_option linter.unusedSimpArgs false
namespace Go.Proofs.Ytljkneajdndgjaa
open Go.RowKit
attribute [local go_sem] GW.cell GW.frozen In.eq_true In.le_true In.ne In.ne' In.ne_add In.ne_add' In.lt_add Upto.le_true Upto.le_add Upto.lt_add
set_option maxHeartbeats 8000000 in
set_option maxRecDepth 100000 in
theorem refJumps_c (L : List Ve) (r : List Vl) (v u : Value) (w : World) (hC : Ew w [] v L) (hr : Rw w [] u r) (hz : L.length ≤ 1000000000) : Calls Try.prog 35 #[v, u] w fun e w' => ∃ v', e = .returned v' ∧ OwnJ w' w.heap.size v' (jmps (eds L) r) ∧ Ext w w' := by
  obtain ⟨A, cap, rfl, hl, hm, hat⟩ := ew_form hC
  unfold maxLen at hm
  replace hat := hide hat
  have hrows := hide hC.2
  have hrw := hide hr
  obtain ⟨RA, rcap, rfl⟩ := rw_val hr
  obtain ⟨R, hR⟩ : ∃ R, R = jmps (eds L) r := ⟨_, rfl⟩
  rw [← hR]
  replace hR := hide hR
  have hlit := hide (World.ownsRow_lit (base := w.heap.size) (e := 63) (size := 2) w #[] 0 (Nat.le_refl _) (by decide) rfl)
  clear hC hr
  go_enter Try.func35, Try.ntmps35
  go_wp2_with fail
  go_loopg [5, 6] L.length (fun gh vv i wr => ∃ (k : Nat) (acc : List Jp), i = .int .i64 k ∧ k + gh = L.length ∧ OwnJ wr w.heap.size vv acc ∧ acc.length ≤ k ∧ Hid (acc = jmps (eds (L.take k)) r) ∧ Ext w wr)
  case atStart => exact ⟨0, [], rfl, by omega, hlit.out, Nat.le_refl _, (by show _ = _; simp [eds, jmps]), (Ext.refl w).alloc _⟩
  case round =>
    obtain ⟨k, acc, rfl, hk, ho, hak, hacc, hX⟩ := hrel
    have hzX := hX.size
    by_cases hlt : k < L.length
    · obtain ⟨x, hx⟩ : ∃ x, L[k]? = some x := ⟨_, List.getElem?_eq_getElem hlt⟩
      obtain ⟨b0, o0, rfl, -, hb', c0, c1, c2⟩ := hat.out k x hx
      have k0 := cell_later hX c0
      have k1 := hide (cell_later hX c1)
      have k2 := hide (cell_later hX c2)
      have hbr : b0 < wr.heap.size := block_lt_of_cell k0
      have hrx := Sl.ext (hrows.out x (List.mem_of_getElem? hx)) hX
      have hsm := hide (refRowSame_c hrx (Sl.ext hrw.out hX))
      have htk : eds (L.take (k + 1)) = eds (L.take k) ++ [x.2] := by rw [List.take_add_one, hx]; simp [eds]
      obtain ⟨xv, xq, xa, xn⟩ := x
      simp only at k0 hrx hsm htk
      obtain ⟨XA, xcap, rfl⟩ := rw_val hrx
      have hnx1 : Hid (xq = r → acc ++ [(xa, xn)] = jmps (eds (L.take (k + 1))) r) := fun h => by
        rw [htk, jmps_append, hacc.out, jmps_cons, if_pos h]; rfl
      have hnx2 : Hid (¬ xq = r → acc = jmps (eds (L.take (k + 1))) r) := fun h => by
        rw [htk, jmps_append, hacc.out, jmps_cons, if_neg h]; simp [jmps]
      clear c0 c1 c2 hat hx hacc hrows hrx htk
      by_cases hq : xq = r
      · have hnx := hide (hnx1.out hq)
        rw [decide_eq_true hq] at hsm
        replace hq := hide hq
        obtain ⟨C, ccap, rfl⟩ := own_form ho
        replace ho := hide ho
        clear hnx1 hnx2
        go_wp2_with (go_at_call 40; (with_reducible refine seq_gw hsm.out ?_); intro g)
        replace ho := hide (own_ext ho.out g.grown)
        have q1 := hide (cell_later g.grown k1.out)
        have q2 := hide (cell_later g.grown k2.out)
        have hzg := g.grown.size
        refine wp_region_list_tail 13 [(.is (.slice C acc.length ccap)), (.is (.slice (some ⟨b0, o0, none⟩) L.length cap)), (.is (.int .i64 k)), (.is (.pointer (some ⟨b0, o0 + k * 3, none⟩))), (.is (.pointer (some ⟨b0, o0 + k * 3 + 1, none⟩))), (.is (.int .i64 xa)), (.is (.slice (some ⟨b0, o0, none⟩) L.length cap)), (.is (.int .i64 k)), (.is (.pointer (some ⟨b0, o0 + k * 3, none⟩))), (.is (.pointer (some ⟨b0, o0 + k * 3 + 2, none⟩))), (.is (.int .i64 xn)), (.is (jm (xa, xn))), oneJ (xa, xn)] (by kernel_rfl) (by kernel_rfl) (by kernel_rfl) (by kernel_rfl) (by kernel_rfl) (by kernel_rfl) (by kernel_rfl) ?_ ?_
        · refine ⟨?_, ?_, ?_, ?_, ?_, ?_, ?_, ?_, ?_, ?_, ?_, ?_, ?_, trivial⟩
          · intro b w' h hE
            have f5 : b.tmps.getD 5 undef = .slice C acc.length ccap := hE 5 (of_decide_eq_true (by kernel_rfl))
            exact good_move (wanted_none rfl) rfl f5
          · intro b w' h hE
            have f0 : b.tmps.getD 0 undef = .slice (some ⟨b0, o0, none⟩) L.length cap := hE 0 (of_decide_eq_true (by kernel_rfl))
            exact good_move (wanted_none rfl) rfl f0
          · intro b w' h hE
            have f6 : b.tmps.getD 6 undef = .int .i64 k := hE 6 (of_decide_eq_true (by kernel_rfl))
            exact good_move (wanted_none rfl) rfl f6
          · intro b w' h hE
            have f22 : b.tmps.getD 22 undef = .slice (some ⟨b0, o0, none⟩) L.length cap := h.dep 1 _ 22 (by kernel_rfl) rfl rfl
            have f23 : b.tmps.getD 23 undef = .int .i64 k := h.dep 2 _ 23 (by kernel_rfl) rfl rfl
            exact good_index (wanted_none rfl) rfl f22 f23 (by simp [go_sem, hlt]) rfl
          · intro b w' h hE
            have f24 : b.tmps.getD 24 undef = .pointer (some ⟨b0, o0 + k * 3, none⟩) := h.dep 3 _ 24 (by kernel_rfl) rfl rfl
            exact good_field (wanted_none rfl) rfl f24 (by simp [go_sem]) rfl
          · intro b w' h hE
            have f25 : b.tmps.getD 25 undef = .pointer (some ⟨b0, o0 + k * 3 + 1, none⟩) := h.dep 4 _ 25 (by kernel_rfl) rfl rfl
            have c0 := cell_later h.ext q1.out
            exact good_load (wanted_none rfl) rfl f25 (by simp [go_sem, c0]) rfl
          · intro b w' h hE
            have f0 : b.tmps.getD 0 undef = .slice (some ⟨b0, o0, none⟩) L.length cap := hE 0 (of_decide_eq_true (by kernel_rfl))
            exact good_move (wanted_none rfl) rfl f0
          · intro b w' h hE
            have f6 : b.tmps.getD 6 undef = .int .i64 k := hE 6 (of_decide_eq_true (by kernel_rfl))
            exact good_move (wanted_none rfl) rfl f6
          · intro b w' h hE
            have f27 : b.tmps.getD 27 undef = .slice (some ⟨b0, o0, none⟩) L.length cap := h.dep 6 _ 27 (by kernel_rfl) rfl rfl
            have f28 : b.tmps.getD 28 undef = .int .i64 k := h.dep 7 _ 28 (by kernel_rfl) rfl rfl
            exact good_index (wanted_none rfl) rfl f27 f28 (by simp [go_sem, hlt]) rfl
          · intro b w' h hE
            have f29 : b.tmps.getD 29 undef = .pointer (some ⟨b0, o0 + k * 3, none⟩) := h.dep 8 _ 29 (by kernel_rfl) rfl rfl
            exact good_field (wanted_none rfl) rfl f29 (by simp [go_sem]) rfl
          · intro b w' h hE
            have f30 : b.tmps.getD 30 undef = .pointer (some ⟨b0, o0 + k * 3 + 2, none⟩) := h.dep 9 _ 30 (by kernel_rfl) rfl rfl
            have c0 := cell_later h.ext q2.out
            exact good_load (wanted_none rfl) rfl f30 (by simp [go_sem, c0]) rfl
          · intro b w' h hE
            have f26 : b.tmps.getD 26 undef = .int .i64 xa := h.dep 5 _ 26 (by kernel_rfl) rfl rfl
            have g26 : b.tmps[26]?.getD undef = .int .i64 xa := by rw [← Array.getD_eq_getD_getElem?]; exact f26
            have f31 : b.tmps.getD 31 undef = .int .i64 xn := h.dep 10 _ 31 (by kernel_rfl) rfl rfl
            have g31 : b.tmps[31]?.getD undef = .int .i64 xn := by rw [← Array.getD_eq_getD_getElem?]; exact f31
            exact good_run (wanted_none rfl) (by simp [execOp, Act.eval, go_sem, g26, g31, Sem.run_bind, Sem.run_pure, Result.andThen_ok]) rfl
          · intro b w' h hE
            have f32 : b.tmps.getD 32 undef = jm (xa, xn) := h.dep 11 _ 32 (by kernel_rfl) rfl rfl
            have g32 : b.tmps[32]?.getD undef = jm (xa, xn) := by rw [← Array.getD_eq_getD_getElem?]; exact f32
            have := buildJ1 (xa, xn) w'
            refine good_grow (w' := w'.alloc (.cells #[.int .i64 ((xa, xn)).1, .int .i64 ((xa, xn)).2] 63)) (v := .slice (some ⟨w'.heap.size, 0, none⟩) 1 1) (wanted_none rfl) ?_ (oneJ_new (xa, xn) w') ((Ext.refl _).alloc _)
            simp [execOp, Act.eval, g32, this, Sem.run_bind, Sem.run_pure, Result.andThen_ok]
        · intro b w2 hX2 hd hz he' hf
          have e21 : b.tmps.getD 21 undef = .slice C acc.length ccap := hf 0 _ 21 (by omega) rfl rfl
          have e22 : b.tmps.getD 22 undef = .slice (some ⟨b0, o0, none⟩) L.length cap := hf 1 _ 22 (by omega) rfl rfl
          have e23 : b.tmps.getD 23 undef = .int .i64 k := hf 2 _ 23 (by omega) rfl rfl
          have e24 : b.tmps.getD 24 undef = .pointer (some ⟨b0, o0 + k * 3, none⟩) := hf 3 _ 24 (by omega) rfl rfl
          have e25 : b.tmps.getD 25 undef = .pointer (some ⟨b0, o0 + k * 3 + 1, none⟩) := hf 4 _ 25 (by omega) rfl rfl
          have e26 : b.tmps.getD 26 undef = .int .i64 xa := hf 5 _ 26 (by omega) rfl rfl
          have e27 : b.tmps.getD 27 undef = .slice (some ⟨b0, o0, none⟩) L.length cap := hf 6 _ 27 (by omega) rfl rfl
          have e28 : b.tmps.getD 28 undef = .int .i64 k := hf 7 _ 28 (by omega) rfl rfl
          have e29 : b.tmps.getD 29 undef = .pointer (some ⟨b0, o0 + k * 3, none⟩) := hf 8 _ 29 (by omega) rfl rfl
          have e30 : b.tmps.getD 30 undef = .pointer (some ⟨b0, o0 + k * 3 + 2, none⟩) := hf 9 _ 30 (by omega) rfl rfl
          have e31 : b.tmps.getD 31 undef = .int .i64 xn := hf 10 _ 31 (by omega) rfl rfl
          have e32 : b.tmps.getD 32 undef = jm (xa, xn) := hf 11 _ 32 (by omega) rfl rfl
          have f9 : Jw w2 [] (b.tmps.getD 33 undef) [(xa, xn)] := hf 12 _ 33 (by omega) rfl rfl
          have e := frame_puts hd hz he'
          obtain ⟨X, hXx⟩ : ∃ X : Nat → Value, ∀ d, b.tmps.getD d undef = X d := ⟨_, fun _ => rfl⟩
          rw [hXx] at e21 e22 e23 e24 e25 e26 e27 e28 e29 e30 e31 e32 f9
          obtain ⟨A33, c33, q33⟩ := jone_form f9
          rw [show dstsOf _ = [21, 22, 23, 24, 25, 26, 27, 28, 29, 30, 31, 32, 33] from rfl] at e
          simp only [List.foldl_cons, List.foldl_nil, hXx, Act.put, List.setIfInBounds_toArray, List.set_cons_succ, List.set_cons_zero] at e
          rw [e21, e22, e23, e24, e25, e26, e27, e28, e29, e30, e31, e32, q33] at e
          rw [q33] at f9
          replace f9 := hide f9
          clear hf he' hz hd hXx e21 e22 e23 e24 e25 e26 e27 e28 e29 e30 e31 e32 q33
          subst e
          have hzw := hX2.size
          simp only [List.drop_succ_cons, List.drop_zero]
          go_wp2_with (at_builtin; (refine wpl_app tJmp rfl (.tmp 21) (.tmp 33) rfl rfl (own_ext ho.out hX2) rfl (src_sl Try.underlying58 f9.out (ps_one _) (by omega)) (by unfold maxLen; simp only [List.length_singleton]; omega) (by simp only [List.length_singleton]; omega) (by omega) ?_; intro v8 w8 ho8 hg8 _; have hX8 := hide (ext_grown ((hX.trans g.grown).trans hX2) hg8 (fun q hq => (ho.out.lt q hq).1))))
          go_roundg (L.length - (k + 1))
          case measure => omega
          case rel => exact ⟨k + 1, acc ++ [(xa, xn)], by go_num, by omega, own_appJ ho8, by rw [List.length_append, List.length_singleton]; omega, hnx.out, hX8.out⟩
      · have hnx := hide (hnx2.out hq)
        rw [decide_eq_false hq] at hsm
        replace hq := hide hq
        clear hnx1 hnx2
        go_wp2_with (go_at_call 40; (with_reducible refine seq_gw hsm.out ?_); intro g)
        go_roundg (L.length - (k + 1))
        case measure => omega
        case rel => exact ⟨k + 1, acc, by go_num, by omega, own_ext ho g.grown, by omega, hnx.out, hX.trans g.grown⟩
    · have hk' : k = L.length := by omega
      have hge : (L.length : Int) ≤ k := by omega
      have hac := hacc.out
      rw [List.take_of_length_le (by omega)] at hac
      have hRa := hide (hR.out.trans hac.symm)
      replace hk' := hide hk'
      obtain ⟨C, ccap, rfl⟩ := own_form ho
      clear hac hacc
      go_wp2_with fail
      go_returns
      rw [hRa.out]
      exact ⟨_, rfl, ho, hX⟩
end Go.Proofs.Ytljkneajdndgjaa
