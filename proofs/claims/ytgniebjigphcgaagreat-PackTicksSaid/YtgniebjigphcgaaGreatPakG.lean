/-
  A helper of ours: no claim of its own. Layer 11 (pack): what of pieces is ahead of a tick, and from it on, by the document.
-/
import Derived.Test.YtgniebjigphcgaaGreatPakV
import Derived.Test.YtgniebjigphcgaaGreatEdgPt
set_option linter.unusedVariables false
set_option linter.unusedSimpArgs false
namespace Go.Proofs.YtgniebjigphcgaaGreat
open Go.RowKit
attribute [local go_sem] GW.cell GW.frozen In.eq_true In.le_true In.ne In.ne' In.ne_add In.ne_add' In.lt_add Upto.le_true Upto.le_add Upto.lt_add
set_option maxHeartbeats 8000000 in
set_option maxRecDepth 100000 in
theorem refPcAhead_c (L : List Ve) (t : Int) (hL : L.length * 40 ≤ 140737488351232) (hr : ∀ p ∈ L, p.2.1.length * 32 ≤ 140737488351232) (v : Value) (w : World) (h : Ew w [] v L) : Calls Tryz.prog 29 #[v, .int .i64 t] w fun e w' => ∃ v' M, e = .returned v' ∧ eds M = (eds L).flatMap (pcAh t) ∧ OwnPr w' w.heap.size v' M ∧ Ext w w' := by
  obtain ⟨A, cap, rfl, hlc, hlm, hat⟩ := ew_form h
  unfold maxLen at hlm
  have hv := hide h
  replace hat := hide hat
  replace hr := hide hr
  have hlit := hide (World.ownsRow_lit (base := w.heap.size) (e := 48) (size := 3) w #[] 0 (Nat.le_refl _) (by decide) rfl)
  clear h
  go_enter Tryz.func29, Tryz.ntmps29
  go_wp2_with fail
  go_loopg [5, 6] L.length (fun gh vv i wr => ∃ (k : Nat) (N : List Ve), i = .int .i64 k ∧ k + gh = L.length ∧ OwnPr wr w.heap.size vv N ∧ N.length ≤ k ∧ Hid (eds N = (eds (L.take k)).flatMap (pcAh t)) ∧ Ext w wr)
  case atStart => exact ⟨0, [], rfl, by omega, ⟨hlit.out, by simp⟩, Nat.le_refl _, (by show _ = _; simp [eds]), (Ext.refl _).alloc _⟩
  case round =>
    clear hlit
    obtain ⟨k, N, rfl, hk, ho, hNk, hN, hX⟩ := hrel
    have hzX := hX.size
    by_cases hlt : k < L.length
    · obtain ⟨x, hx⟩ : ∃ x, L[k]? = some x := ⟨_, List.getElem?_eq_getElem hlt⟩
      obtain ⟨b0, o0, rfl, -, hb, c0, c1, c2⟩ := hat.out k x hx
      have k0 := cell_later hX c0
      have k1 := cell_later hX c1
      have k2 := cell_later hX c2
      have hbr : b0 < wr.heap.size := block_lt_of_cell k0
      have hrw := Sl.ext (hv.out.2 x (List.mem_of_getElem? hx)) hX
      have hrz := hr.out x (List.mem_of_getElem? hx)
      have hnx : Hid (eds N ++ pcAh t x.2 = (eds (L.take (k + 1))).flatMap (pcAh t)) := by
        show _ = _
        rw [List.take_add_one, hx, Option.toList_some, hN.out]; simp [eds]
      obtain ⟨xv, xq, xa, xn⟩ := x
      simp only at k0 k1 k2 hrw hnx hrz
      obtain ⟨XA, xcap, rfl⟩ := rw_val hrw
      have ho0 := hide ho
      obtain ⟨C, ccap, rfl⟩ := own_form ho.1
      clear c0 c1 c2 hat hx hv ho hN hr
      by_cases hc : xa < t
      · have d1 : decide (xa < t) = true := decide_eq_true hc
        unfold pcAh at hnx
        rw [if_pos hc] at hnx
        by_cases hm : xn ≤ t
        · skip
          have hmm : min xn t = xn := by omega
          rw [hmm] at hnx
          have hX1 : Hid (Ext wr (wr.alloc (.cells #[.int .i64 xa, .int .i64 xn] 30))) := hide ((Ext.refl wr).alloc _)
          have O1 : Hid (Ob (wr.alloc (.cells #[.int .i64 xa, .int .i64 xn] 30)) wr.heap.size 30 [.int .i64 xa, .int .i64 xn]) := hide (Ob.new wr 30 [.int .i64 xa, .int .i64 xn])
          have p0 := hide (O1.out.cell 0 rfl)
          have p1 := hide (O1.out.cell 1 rfl)
          have q0 := hide (cell_later hX1.out k0)
          have hrx := hide (Sl.ext hrw hX1.out)
          have hzX1 := hX1.out.size
          have dt : decide (t < xn) = false := by rw [decide_eq_false_iff_not]; omega
          clear hrw
          go_wp2_with fail
          refine wp_region_list_tail 11 [(.is (.slice C N.length ccap)), litF wr.heap.size, (.is (.slice (some ⟨b0, o0, none⟩) L.length cap)), (.is (.int .i64 k)), (.is (.pointer (some ⟨b0, o0 + k * 3, none⟩))), (.is (.pointer (some ⟨b0, o0 + k * 3, none⟩))), (.is (.slice XA xq.length xcap)), rowF (List.range wr.heap.size) xq, (.is (jm (xa, xn))), pcF (List.range wr.heap.size) xq (xa, xn), oneP (List.range wr.heap.size) xq (xa, xn)] (by kernel_rfl) (by kernel_rfl) (by kernel_rfl) (by kernel_rfl) (by kernel_rfl) (by kernel_rfl) (by kernel_rfl) ?_ ?_
          · refine ⟨?_, ?_, ?_, ?_, ?_, ?_, ?_, ?_, ?_, ?_, ?_, trivial⟩
            · intro b w' h hE
              have f5 : b.tmps.getD 5 undef = .slice C N.length ccap := hE 5 (of_decide_eq_true (by kernel_rfl))
              exact good_move (wanted_none rfl) rfl f5
            · intro b w' h hE
              have hz0 := h.ext.size
              refine good_grow (w' := w'.alloc (.cells #[] 85)) (v := .slice (some ⟨w'.heap.size, 0, none⟩) 0 0) (wanted_none rfl) ?_ ⟨_, rfl, (by omega), Ob.new w' 85 []⟩ ((Ext.refl _).alloc _)
              simp [execOp, Act.eval, buildRow0, Sem.run_bind, Sem.run_pure, Result.andThen_ok]
            · intro b w' h hE
              have f0 : b.tmps.getD 0 undef = .slice (some ⟨b0, o0, none⟩) L.length cap := hE 0 (of_decide_eq_true (by kernel_rfl))
              exact good_move (wanted_none rfl) rfl f0
            · intro b w' h hE
              have f6 : b.tmps.getD 6 undef = .int .i64 k := hE 6 (of_decide_eq_true (by kernel_rfl))
              exact good_move (wanted_none rfl) rfl f6
            · intro b w' h hE
              have f36 : b.tmps.getD 36 undef = .slice (some ⟨b0, o0, none⟩) L.length cap := h.dep 2 _ 36 (by kernel_rfl) rfl rfl
              have f37 : b.tmps.getD 37 undef = .int .i64 k := h.dep 3 _ 37 (by kernel_rfl) rfl rfl
              exact good_index (wanted_none rfl) rfl f36 f37 (by simp [go_sem, hlt]) rfl
            · intro b w' h hE
              have f38 : b.tmps.getD 38 undef = .pointer (some ⟨b0, o0 + k * 3, none⟩) := h.dep 4 _ 38 (by kernel_rfl) rfl rfl
              exact good_field (wanted_none rfl) rfl f38 (by simp [go_sem]) rfl
            · intro b w' h hE
              have f39 : b.tmps.getD 39 undef = .pointer (some ⟨b0, o0 + k * 3, none⟩) := h.dep 5 _ 39 (by kernel_rfl) rfl rfl
              have c0 := cell_later h.ext q0.out
              exact good_load (wanted_none rfl) rfl f39 (by simp [go_sem, c0]) rfl
            · intro b w' h hE
              have f35 : ∃ bb, (b.tmps.getD 35 undef) = .slice (some ⟨bb, 0, none⟩) 0 0 ∧ (wr.heap.size ≤ bb ∧ Ob w' bb 85 []) := h.dep 1 _ 35 (by kernel_rfl) rfl rfl
              have f40 : b.tmps.getD 40 undef = .slice XA xq.length xcap := h.dep 6 _ 40 (by kernel_rfl) rfl rfl
              have g40 : b.tmps[40]?.getD undef = .slice XA xq.length xcap := by rw [← Array.getD_eq_getD_getElem?]; exact f40
              obtain ⟨bb, e35, hbb, hob⟩ := f35
              have g35 : b.tmps[35]?.getD undef = .slice (some ⟨bb, 0, none⟩) 0 0 := by rw [← Array.getD_eq_getD_getElem?]; exact e35
              have hz1 := h.ext.size
              obtain ⟨v41, w41, hr41, ho41, hx41⟩ := run_app_lit (ty := 46) tValP (src_sl Tryz.underlying46 (Sl.ext hrx.out h.ext) (rc_one xq) (by omega)) (by unfold maxLen; omega) (by omega) hbb (by omega) hob
              refine good_grow (w' := w41) (v := v41) (wanted_none rfl) ?_ (Sl.own ho41 (fun k hk => List.mem_range.1 hk)) hx41
              simp [execOp, resolve, invoke, builtin, Act.eval, g35, g40, hr41, Sem.run_bind, Sem.run_pure, Result.andThen_ok]
            · intro b w' h hE
              have f7 : b.tmps.getD 7 undef = .pointer (some ⟨wr.heap.size, 0, none⟩) := hE 7 (of_decide_eq_true (by kernel_rfl))
              have c0 := cell_later h.ext p0.out
              have c1 := cell_later h.ext p1.out
              exact good_load (wanted_none rfl) rfl f7 (by simp [go_sem, c0, c1]) rfl
            · intro b w' h hE
              have f41 : Rw w' (List.range wr.heap.size) (b.tmps.getD 41 undef) xq := h.dep 7 _ 41 (by kernel_rfl) rfl rfl
              have f42 : b.tmps.getD 42 undef = jm (xa, xn) := h.dep 8 _ 42 (by kernel_rfl) rfl rfl
              have g42 : b.tmps[42]?.getD undef = jm (xa, xn) := by rw [← Array.getD_eq_getD_getElem?]; exact f42
              obtain ⟨A, cp, e41⟩ := rw_val f41
              have g41 : b.tmps[41]?.getD undef = .slice A xq.length cp := by rw [← Array.getD_eq_getD_getElem?]; exact e41
              rw [e41] at f41
              exact good_run (wanted_none rfl) (v := em (.slice A xq.length cp) (xa, xn)) (by simp [execOp, Act.eval, go_sem, g41, g42, jm, Sem.run_bind, Sem.run_pure, Result.andThen_ok]) ⟨A, cp, rfl, f41⟩
            · intro b w' h hE
              have f43 : ∃ A cp, (b.tmps.getD 43 undef) = em (.slice A xq.length cp) (xa, xn) ∧ Rw w' (List.range wr.heap.size) (.slice A xq.length cp) xq := h.dep 9 _ 43 (by kernel_rfl) rfl rfl
              obtain ⟨A, cp, e43, hr43⟩ := f43
              have g43 : b.tmps[43]?.getD undef = em (.slice A xq.length cp) (xa, xn) := by rw [← Array.getD_eq_getD_getElem?]; exact e43
              have := buildP1 A xq.length cp (xa, xn) w'
              refine good_grow (w' := w'.alloc (.cells #[.slice A xq.length cp, .int .i64 xa, .int .i64 xn] 48)) (v := .slice (some ⟨w'.heap.size, 0, none⟩) 1 1) (wanted_none rfl) ?_ ⟨_, oneP_new (.slice A xq.length cp) xq (xa, xn) w', Sl.ext hr43 ((Ext.refl _).alloc _)⟩ ((Ext.refl _).alloc _)
              simp [execOp, Act.eval, g43, this, Sem.run_bind, Sem.run_pure, Result.andThen_ok]
          · intro b w2 hX2 hd hz he' hf
            have e34 : b.tmps.getD 34 undef = .slice C N.length ccap := hf 0 _ 34 (by omega) rfl rfl
            have f35 : ∃ bb, (b.tmps.getD 35 undef) = .slice (some ⟨bb, 0, none⟩) 0 0 ∧ (wr.heap.size ≤ bb ∧ Ob w2 bb 85 []) := hf 1 _ 35 (by omega) rfl rfl
            have e36 : b.tmps.getD 36 undef = .slice (some ⟨b0, o0, none⟩) L.length cap := hf 2 _ 36 (by omega) rfl rfl
            have e37 : b.tmps.getD 37 undef = .int .i64 k := hf 3 _ 37 (by omega) rfl rfl
            have e38 : b.tmps.getD 38 undef = .pointer (some ⟨b0, o0 + k * 3, none⟩) := hf 4 _ 38 (by omega) rfl rfl
            have e39 : b.tmps.getD 39 undef = .pointer (some ⟨b0, o0 + k * 3, none⟩) := hf 5 _ 39 (by omega) rfl rfl
            have e40 : b.tmps.getD 40 undef = .slice XA xq.length xcap := hf 6 _ 40 (by omega) rfl rfl
            have f41 : Rw w2 (List.range wr.heap.size) (b.tmps.getD 41 undef) xq := hf 7 _ 41 (by omega) rfl rfl
            have e42 : b.tmps.getD 42 undef = jm (xa, xn) := hf 8 _ 42 (by omega) rfl rfl
            have f43 : ∃ A cp, (b.tmps.getD 43 undef) = em (.slice A xq.length cp) (xa, xn) ∧ Rw w2 (List.range wr.heap.size) (.slice A xq.length cp) xq := hf 9 _ 43 (by omega) rfl rfl
            have f44 : ∃ u, Sl w2 [] 3 (b.tmps.getD 44 undef) 1 (ec1 (u, xq, (xa, xn))) ∧ Rw w2 (List.range wr.heap.size) u xq := hf 10 _ 44 (by omega) rfl rfl
            have e := frame_puts hd hz he'
            obtain ⟨X, hXx⟩ : ∃ X : Nat → Value, ∀ d, b.tmps.getD d undef = X d := ⟨_, fun _ => rfl⟩
            rw [hXx] at e34 e36 e37 e38 e39 e40 e42 f35 f41 f43 f44
            obtain ⟨b35, q35, -, -⟩ := f35
            obtain ⟨A41, c41, q41⟩ := rw_val f41
            obtain ⟨A43, c43, q43, -⟩ := f43
            obtain ⟨u44, f44, r44⟩ := f44
            obtain ⟨A44, c44, q44⟩ := sl_form f44
            rw [show dstsOf _ = [34, 35, 36, 37, 38, 39, 40, 41, 42, 43, 44] from rfl] at e
            simp only [List.foldl_cons, List.foldl_nil, hXx, Act.put, List.setIfInBounds_toArray, List.set_cons_succ, List.set_cons_zero] at e
            rw [e34, e36, e37, e38, e39, e40, e42, q35, q41, q43, q44] at e
            rw [q41] at f41
            replace f41 := hide f41
            rw [q44] at f44
            replace f44 := hide f44
            clear hf he' hz hd hXx e34 e36 e37 e38 e39 e40 e42 q35 q41 q43 q44
            subst e
            have hzw := hX2.size
            simp only [List.drop_succ_cons, List.drop_zero]
            replace r44 := hide r44
            have hone := row_one r44.out
            have hX9 := hide (hX1.out.trans hX2)
            go_wp2_with (at_builtin; (refine wpl_app tPc rfl (.tmp 34) (.tmp 44) rfl rfl (own_ext ho0.out.1 hX9.out) rfl (src_sl Tryz.underlying33 f44.out (ec1_one hone) (by omega)) (by unfold maxLen; show N.length + 1 ≤ _; omega) (by show (N.length + 1) * 40 ≤ _; omega) (Nat.le_trans hzX hX9.out.size) ?_; intro v8 w8 ho8 hg8 hob8; have hX8 := hide (ext_grown (hX.trans hX9.out) hg8 (fun q hq => (ho0.out.1.lt q hq).1))))
            go_roundg (L.length - (k + 1))
            case measure => omega
            case rel =>
              have ho9 : OwnPr w8 w.heap.size v8 (N ++ [(u44, xq, (xa, xn))]) := (ho0.out.ext hX9.out).app (own_appP (M := [(u44, xq, (xa, xn))]) (by simpa [ec, ec1] using ho8)) hg8 hob8 (fun p hp => by
                obtain rfl := List.mem_singleton.1 hp
                refine ⟨_, r44.out, fun q hq => List.mem_range.2 ?_⟩
                rcases List.mem_append.1 hq with hq | hq
                · have := (ob_ge ho0.out.1 q hq).2; omega
                · have := List.mem_range.1 hq; omega)
              exact ⟨k + 1, _, by go_num, by omega, ho9, by rw [List.length_append, List.length_singleton]; omega, by show _ = _; rw [eds, List.map_append]; exact hnx.out, hX8.out⟩
        · skip
          have hmm : min xn t = t := by omega
          rw [hmm] at hnx
          have hX1 : Hid (Ext wr (wr.alloc (.cells #[.int .i64 xa, .int .i64 t] 30))) := hide ((Ext.refl wr).alloc _)
          have O1 : Hid (Ob (wr.alloc (.cells #[.int .i64 xa, .int .i64 t] 30)) wr.heap.size 30 [.int .i64 xa, .int .i64 t]) := hide (Ob.new wr 30 [.int .i64 xa, .int .i64 t])
          have p0 := hide (O1.out.cell 0 rfl)
          have p1 := hide (O1.out.cell 1 rfl)
          have q0 := hide (cell_later hX1.out k0)
          have hrx := hide (Sl.ext hrw hX1.out)
          have hzX1 := hX1.out.size
          have dt : decide (t < xn) = true := by rw [decide_eq_true_iff]; omega
          clear hrw
          go_wp2_with fail
          refine wp_region_list_tail 11 [(.is (.slice C N.length ccap)), litF wr.heap.size, (.is (.slice (some ⟨b0, o0, none⟩) L.length cap)), (.is (.int .i64 k)), (.is (.pointer (some ⟨b0, o0 + k * 3, none⟩))), (.is (.pointer (some ⟨b0, o0 + k * 3, none⟩))), (.is (.slice XA xq.length xcap)), rowF (List.range wr.heap.size) xq, (.is (jm (xa, t))), pcF (List.range wr.heap.size) xq (xa, t), oneP (List.range wr.heap.size) xq (xa, t)] (by kernel_rfl) (by kernel_rfl) (by kernel_rfl) (by kernel_rfl) (by kernel_rfl) (by kernel_rfl) (by kernel_rfl) ?_ ?_
          · refine ⟨?_, ?_, ?_, ?_, ?_, ?_, ?_, ?_, ?_, ?_, ?_, trivial⟩
            · intro b w' h hE
              have f5 : b.tmps.getD 5 undef = .slice C N.length ccap := hE 5 (of_decide_eq_true (by kernel_rfl))
              exact good_move (wanted_none rfl) rfl f5
            · intro b w' h hE
              have hz0 := h.ext.size
              refine good_grow (w' := w'.alloc (.cells #[] 85)) (v := .slice (some ⟨w'.heap.size, 0, none⟩) 0 0) (wanted_none rfl) ?_ ⟨_, rfl, (by omega), Ob.new w' 85 []⟩ ((Ext.refl _).alloc _)
              simp [execOp, Act.eval, buildRow0, Sem.run_bind, Sem.run_pure, Result.andThen_ok]
            · intro b w' h hE
              have f0 : b.tmps.getD 0 undef = .slice (some ⟨b0, o0, none⟩) L.length cap := hE 0 (of_decide_eq_true (by kernel_rfl))
              exact good_move (wanted_none rfl) rfl f0
            · intro b w' h hE
              have f6 : b.tmps.getD 6 undef = .int .i64 k := hE 6 (of_decide_eq_true (by kernel_rfl))
              exact good_move (wanted_none rfl) rfl f6
            · intro b w' h hE
              have f36 : b.tmps.getD 36 undef = .slice (some ⟨b0, o0, none⟩) L.length cap := h.dep 2 _ 36 (by kernel_rfl) rfl rfl
              have f37 : b.tmps.getD 37 undef = .int .i64 k := h.dep 3 _ 37 (by kernel_rfl) rfl rfl
              exact good_index (wanted_none rfl) rfl f36 f37 (by simp [go_sem, hlt]) rfl
            · intro b w' h hE
              have f38 : b.tmps.getD 38 undef = .pointer (some ⟨b0, o0 + k * 3, none⟩) := h.dep 4 _ 38 (by kernel_rfl) rfl rfl
              exact good_field (wanted_none rfl) rfl f38 (by simp [go_sem]) rfl
            · intro b w' h hE
              have f39 : b.tmps.getD 39 undef = .pointer (some ⟨b0, o0 + k * 3, none⟩) := h.dep 5 _ 39 (by kernel_rfl) rfl rfl
              have c0 := cell_later h.ext q0.out
              exact good_load (wanted_none rfl) rfl f39 (by simp [go_sem, c0]) rfl
            · intro b w' h hE
              have f35 : ∃ bb, (b.tmps.getD 35 undef) = .slice (some ⟨bb, 0, none⟩) 0 0 ∧ (wr.heap.size ≤ bb ∧ Ob w' bb 85 []) := h.dep 1 _ 35 (by kernel_rfl) rfl rfl
              have f40 : b.tmps.getD 40 undef = .slice XA xq.length xcap := h.dep 6 _ 40 (by kernel_rfl) rfl rfl
              have g40 : b.tmps[40]?.getD undef = .slice XA xq.length xcap := by rw [← Array.getD_eq_getD_getElem?]; exact f40
              obtain ⟨bb, e35, hbb, hob⟩ := f35
              have g35 : b.tmps[35]?.getD undef = .slice (some ⟨bb, 0, none⟩) 0 0 := by rw [← Array.getD_eq_getD_getElem?]; exact e35
              have hz1 := h.ext.size
              obtain ⟨v41, w41, hr41, ho41, hx41⟩ := run_app_lit (ty := 46) tValP (src_sl Tryz.underlying46 (Sl.ext hrx.out h.ext) (rc_one xq) (by omega)) (by unfold maxLen; omega) (by omega) hbb (by omega) hob
              refine good_grow (w' := w41) (v := v41) (wanted_none rfl) ?_ (Sl.own ho41 (fun k hk => List.mem_range.1 hk)) hx41
              simp [execOp, resolve, invoke, builtin, Act.eval, g35, g40, hr41, Sem.run_bind, Sem.run_pure, Result.andThen_ok]
            · intro b w' h hE
              have f7 : b.tmps.getD 7 undef = .pointer (some ⟨wr.heap.size, 0, none⟩) := hE 7 (of_decide_eq_true (by kernel_rfl))
              have c0 := cell_later h.ext p0.out
              have c1 := cell_later h.ext p1.out
              exact good_load (wanted_none rfl) rfl f7 (by simp [go_sem, c0, c1]) rfl
            · intro b w' h hE
              have f41 : Rw w' (List.range wr.heap.size) (b.tmps.getD 41 undef) xq := h.dep 7 _ 41 (by kernel_rfl) rfl rfl
              have f42 : b.tmps.getD 42 undef = jm (xa, t) := h.dep 8 _ 42 (by kernel_rfl) rfl rfl
              have g42 : b.tmps[42]?.getD undef = jm (xa, t) := by rw [← Array.getD_eq_getD_getElem?]; exact f42
              obtain ⟨A, cp, e41⟩ := rw_val f41
              have g41 : b.tmps[41]?.getD undef = .slice A xq.length cp := by rw [← Array.getD_eq_getD_getElem?]; exact e41
              rw [e41] at f41
              exact good_run (wanted_none rfl) (v := em (.slice A xq.length cp) (xa, t)) (by simp [execOp, Act.eval, go_sem, g41, g42, jm, Sem.run_bind, Sem.run_pure, Result.andThen_ok]) ⟨A, cp, rfl, f41⟩
            · intro b w' h hE
              have f43 : ∃ A cp, (b.tmps.getD 43 undef) = em (.slice A xq.length cp) (xa, t) ∧ Rw w' (List.range wr.heap.size) (.slice A xq.length cp) xq := h.dep 9 _ 43 (by kernel_rfl) rfl rfl
              obtain ⟨A, cp, e43, hr43⟩ := f43
              have g43 : b.tmps[43]?.getD undef = em (.slice A xq.length cp) (xa, t) := by rw [← Array.getD_eq_getD_getElem?]; exact e43
              have := buildP1 A xq.length cp (xa, t) w'
              refine good_grow (w' := w'.alloc (.cells #[.slice A xq.length cp, .int .i64 xa, .int .i64 t] 48)) (v := .slice (some ⟨w'.heap.size, 0, none⟩) 1 1) (wanted_none rfl) ?_ ⟨_, oneP_new (.slice A xq.length cp) xq (xa, t) w', Sl.ext hr43 ((Ext.refl _).alloc _)⟩ ((Ext.refl _).alloc _)
              simp [execOp, Act.eval, g43, this, Sem.run_bind, Sem.run_pure, Result.andThen_ok]
          · intro b w2 hX2 hd hz he' hf
            have e34 : b.tmps.getD 34 undef = .slice C N.length ccap := hf 0 _ 34 (by omega) rfl rfl
            have f35 : ∃ bb, (b.tmps.getD 35 undef) = .slice (some ⟨bb, 0, none⟩) 0 0 ∧ (wr.heap.size ≤ bb ∧ Ob w2 bb 85 []) := hf 1 _ 35 (by omega) rfl rfl
            have e36 : b.tmps.getD 36 undef = .slice (some ⟨b0, o0, none⟩) L.length cap := hf 2 _ 36 (by omega) rfl rfl
            have e37 : b.tmps.getD 37 undef = .int .i64 k := hf 3 _ 37 (by omega) rfl rfl
            have e38 : b.tmps.getD 38 undef = .pointer (some ⟨b0, o0 + k * 3, none⟩) := hf 4 _ 38 (by omega) rfl rfl
            have e39 : b.tmps.getD 39 undef = .pointer (some ⟨b0, o0 + k * 3, none⟩) := hf 5 _ 39 (by omega) rfl rfl
            have e40 : b.tmps.getD 40 undef = .slice XA xq.length xcap := hf 6 _ 40 (by omega) rfl rfl
            have f41 : Rw w2 (List.range wr.heap.size) (b.tmps.getD 41 undef) xq := hf 7 _ 41 (by omega) rfl rfl
            have e42 : b.tmps.getD 42 undef = jm (xa, t) := hf 8 _ 42 (by omega) rfl rfl
            have f43 : ∃ A cp, (b.tmps.getD 43 undef) = em (.slice A xq.length cp) (xa, t) ∧ Rw w2 (List.range wr.heap.size) (.slice A xq.length cp) xq := hf 9 _ 43 (by omega) rfl rfl
            have f44 : ∃ u, Sl w2 [] 3 (b.tmps.getD 44 undef) 1 (ec1 (u, xq, (xa, t))) ∧ Rw w2 (List.range wr.heap.size) u xq := hf 10 _ 44 (by omega) rfl rfl
            have e := frame_puts hd hz he'
            obtain ⟨X, hXx⟩ : ∃ X : Nat → Value, ∀ d, b.tmps.getD d undef = X d := ⟨_, fun _ => rfl⟩
            rw [hXx] at e34 e36 e37 e38 e39 e40 e42 f35 f41 f43 f44
            obtain ⟨b35, q35, -, -⟩ := f35
            obtain ⟨A41, c41, q41⟩ := rw_val f41
            obtain ⟨A43, c43, q43, -⟩ := f43
            obtain ⟨u44, f44, r44⟩ := f44
            obtain ⟨A44, c44, q44⟩ := sl_form f44
            rw [show dstsOf _ = [34, 35, 36, 37, 38, 39, 40, 41, 42, 43, 44] from rfl] at e
            simp only [List.foldl_cons, List.foldl_nil, hXx, Act.put, List.setIfInBounds_toArray, List.set_cons_succ, List.set_cons_zero] at e
            rw [e34, e36, e37, e38, e39, e40, e42, q35, q41, q43, q44] at e
            rw [q41] at f41
            replace f41 := hide f41
            rw [q44] at f44
            replace f44 := hide f44
            clear hf he' hz hd hXx e34 e36 e37 e38 e39 e40 e42 q35 q41 q43 q44
            subst e
            have hzw := hX2.size
            simp only [List.drop_succ_cons, List.drop_zero]
            replace r44 := hide r44
            have hone := row_one r44.out
            have hX9 := hide (hX1.out.trans hX2)
            go_wp2_with (at_builtin; (refine wpl_app tPc rfl (.tmp 34) (.tmp 44) rfl rfl (own_ext ho0.out.1 hX9.out) rfl (src_sl Tryz.underlying33 f44.out (ec1_one hone) (by omega)) (by unfold maxLen; show N.length + 1 ≤ _; omega) (by show (N.length + 1) * 40 ≤ _; omega) (Nat.le_trans hzX hX9.out.size) ?_; intro v8 w8 ho8 hg8 hob8; have hX8 := hide (ext_grown (hX.trans hX9.out) hg8 (fun q hq => (ho0.out.1.lt q hq).1))))
            go_roundg (L.length - (k + 1))
            case measure => omega
            case rel =>
              have ho9 : OwnPr w8 w.heap.size v8 (N ++ [(u44, xq, (xa, t))]) := (ho0.out.ext hX9.out).app (own_appP (M := [(u44, xq, (xa, t))]) (by simpa [ec, ec1] using ho8)) hg8 hob8 (fun p hp => by
                obtain rfl := List.mem_singleton.1 hp
                refine ⟨_, r44.out, fun q hq => List.mem_range.2 ?_⟩
                rcases List.mem_append.1 hq with hq | hq
                · have := (ob_ge ho0.out.1 q hq).2; omega
                · have := List.mem_range.1 hq; omega)
              exact ⟨k + 1, _, by go_num, by omega, ho9, by rw [List.length_append, List.length_singleton]; omega, by show _ = _; rw [eds, List.map_append]; exact hnx.out, hX8.out⟩
      · have d1 : decide (xa < t) = false := decide_eq_false hc
        unfold pcAh at hnx
        rw [if_neg hc, List.append_nil] at hnx
        by_cases hm : t < xn
        · have dt : decide (t < xn) = true := decide_eq_true hm
          have hX1 : Hid (Ext wr (wr.alloc (.cells #[.int .i64 xa, .int .i64 t] 30))) := hide ((Ext.refl wr).alloc _)
          clear hrw
          go_wp2_with fail
          go_roundg (L.length - (k + 1))
          case measure => omega
          case rel => exact ⟨k + 1, _, by go_num, by omega, ho0.out.ext hX1.out, by omega, hnx, hX.trans hX1.out⟩
        · have dt : decide (t < xn) = false := decide_eq_false hm
          have hX1 : Hid (Ext wr (wr.alloc (.cells #[.int .i64 xa, .int .i64 xn] 30))) := hide ((Ext.refl wr).alloc _)
          clear hrw
          go_wp2_with fail
          go_roundg (L.length - (k + 1))
          case measure => omega
          case rel => exact ⟨k + 1, _, by go_num, by omega, ho0.out.ext hX1.out, by omega, hnx, hX.trans hX1.out⟩
    · have hk' : k = L.length := by omega
      have hge : (L.length : Int) ≤ k := by omega
      have hN2 := hN.out
      rw [hk', List.take_length] at hN2
      replace hN2 := hide hN2
      replace hk' := hide hk'
      obtain ⟨C, ccap, rfl⟩ := own_form ho.1
      clear hN hat
      go_wp2_with fail
      go_returns
      exact ⟨_, N, rfl, hN2.out, ho, hX⟩
set_option maxHeartbeats 8000000 in
set_option maxRecDepth 100000 in
theorem refPcRest_c (L : List Ve) (t : Int) (hL : L.length * 40 ≤ 140737488351232) (hr : ∀ p ∈ L, p.2.1.length * 32 ≤ 140737488351232) (v : Value) (w : World) (h : Ew w [] v L) : Calls Tryz.prog 31 #[v, .int .i64 t] w fun e w' => ∃ v' M, e = .returned v' ∧ eds M = (eds L).flatMap (pcRe t) ∧ OwnPr w' w.heap.size v' M ∧ Ext w w' := by
  obtain ⟨A, cap, rfl, hlc, hlm, hat⟩ := ew_form h
  unfold maxLen at hlm
  have hv := hide h
  replace hat := hide hat
  replace hr := hide hr
  have hlit := hide (World.ownsRow_lit (base := w.heap.size) (e := 48) (size := 3) w #[] 0 (Nat.le_refl _) (by decide) rfl)
  clear h
  go_enter Tryz.func31, Tryz.ntmps31
  go_wp2_with fail
  go_loopg [5, 6] L.length (fun gh vv i wr => ∃ (k : Nat) (N : List Ve), i = .int .i64 k ∧ k + gh = L.length ∧ OwnPr wr w.heap.size vv N ∧ N.length ≤ k ∧ Hid (eds N = (eds (L.take k)).flatMap (pcRe t)) ∧ Ext w wr)
  case atStart => exact ⟨0, [], rfl, by omega, ⟨hlit.out, by simp⟩, Nat.le_refl _, (by show _ = _; simp [eds]), (Ext.refl _).alloc _⟩
  case round =>
    clear hlit
    obtain ⟨k, N, rfl, hk, ho, hNk, hN, hX⟩ := hrel
    have hzX := hX.size
    by_cases hlt : k < L.length
    · obtain ⟨x, hx⟩ : ∃ x, L[k]? = some x := ⟨_, List.getElem?_eq_getElem hlt⟩
      obtain ⟨b0, o0, rfl, -, hb, c0, c1, c2⟩ := hat.out k x hx
      have k0 := cell_later hX c0
      have k1 := cell_later hX c1
      have k2 := cell_later hX c2
      have hbr : b0 < wr.heap.size := block_lt_of_cell k0
      have hrw := Sl.ext (hv.out.2 x (List.mem_of_getElem? hx)) hX
      have hrz := hr.out x (List.mem_of_getElem? hx)
      have hnx : Hid (eds N ++ pcRe t x.2 = (eds (L.take (k + 1))).flatMap (pcRe t)) := by
        show _ = _
        rw [List.take_add_one, hx, Option.toList_some, hN.out]; simp [eds]
      obtain ⟨xv, xq, xa, xn⟩ := x
      simp only at k0 k1 k2 hrw hnx hrz
      obtain ⟨XA, xcap, rfl⟩ := rw_val hrw
      have ho0 := hide ho
      obtain ⟨C, ccap, rfl⟩ := own_form ho.1
      clear c0 c1 c2 hat hx hv ho hN hr
      by_cases hc : t < xn
      · have d1 : decide (t < xn) = true := decide_eq_true hc
        unfold pcRe at hnx
        rw [if_pos hc] at hnx
        by_cases hm : t ≤ xa
        · skip
          have hmm : max xa t = xa := by omega
          rw [hmm] at hnx
          have hX1 : Hid (Ext wr (wr.alloc (.cells #[.int .i64 xa, .int .i64 xn] 30))) := hide ((Ext.refl wr).alloc _)
          have O1 : Hid (Ob (wr.alloc (.cells #[.int .i64 xa, .int .i64 xn] 30)) wr.heap.size 30 [.int .i64 xa, .int .i64 xn]) := hide (Ob.new wr 30 [.int .i64 xa, .int .i64 xn])
          have p0 := hide (O1.out.cell 0 rfl)
          have p1 := hide (O1.out.cell 1 rfl)
          have q0 := hide (cell_later hX1.out k0)
          have hrx := hide (Sl.ext hrw hX1.out)
          have hzX1 := hX1.out.size
          have dt : decide (xa < t) = false := by rw [decide_eq_false_iff_not]; omega
          clear hrw
          go_wp2_with fail
          refine wp_region_list_tail 11 [(.is (.slice C N.length ccap)), litF wr.heap.size, (.is (.slice (some ⟨b0, o0, none⟩) L.length cap)), (.is (.int .i64 k)), (.is (.pointer (some ⟨b0, o0 + k * 3, none⟩))), (.is (.pointer (some ⟨b0, o0 + k * 3, none⟩))), (.is (.slice XA xq.length xcap)), rowF (List.range wr.heap.size) xq, (.is (jm (xa, xn))), pcF (List.range wr.heap.size) xq (xa, xn), oneP (List.range wr.heap.size) xq (xa, xn)] (by kernel_rfl) (by kernel_rfl) (by kernel_rfl) (by kernel_rfl) (by kernel_rfl) (by kernel_rfl) (by kernel_rfl) ?_ ?_
          · refine ⟨?_, ?_, ?_, ?_, ?_, ?_, ?_, ?_, ?_, ?_, ?_, trivial⟩
            · intro b w' h hE
              have f5 : b.tmps.getD 5 undef = .slice C N.length ccap := hE 5 (of_decide_eq_true (by kernel_rfl))
              exact good_move (wanted_none rfl) rfl f5
            · intro b w' h hE
              have hz0 := h.ext.size
              refine good_grow (w' := w'.alloc (.cells #[] 85)) (v := .slice (some ⟨w'.heap.size, 0, none⟩) 0 0) (wanted_none rfl) ?_ ⟨_, rfl, (by omega), Ob.new w' 85 []⟩ ((Ext.refl _).alloc _)
              simp [execOp, Act.eval, buildRow0, Sem.run_bind, Sem.run_pure, Result.andThen_ok]
            · intro b w' h hE
              have f0 : b.tmps.getD 0 undef = .slice (some ⟨b0, o0, none⟩) L.length cap := hE 0 (of_decide_eq_true (by kernel_rfl))
              exact good_move (wanted_none rfl) rfl f0
            · intro b w' h hE
              have f6 : b.tmps.getD 6 undef = .int .i64 k := hE 6 (of_decide_eq_true (by kernel_rfl))
              exact good_move (wanted_none rfl) rfl f6
            · intro b w' h hE
              have f36 : b.tmps.getD 36 undef = .slice (some ⟨b0, o0, none⟩) L.length cap := h.dep 2 _ 36 (by kernel_rfl) rfl rfl
              have f37 : b.tmps.getD 37 undef = .int .i64 k := h.dep 3 _ 37 (by kernel_rfl) rfl rfl
              exact good_index (wanted_none rfl) rfl f36 f37 (by simp [go_sem, hlt]) rfl
            · intro b w' h hE
              have f38 : b.tmps.getD 38 undef = .pointer (some ⟨b0, o0 + k * 3, none⟩) := h.dep 4 _ 38 (by kernel_rfl) rfl rfl
              exact good_field (wanted_none rfl) rfl f38 (by simp [go_sem]) rfl
            · intro b w' h hE
              have f39 : b.tmps.getD 39 undef = .pointer (some ⟨b0, o0 + k * 3, none⟩) := h.dep 5 _ 39 (by kernel_rfl) rfl rfl
              have c0 := cell_later h.ext q0.out
              exact good_load (wanted_none rfl) rfl f39 (by simp [go_sem, c0]) rfl
            · intro b w' h hE
              have f35 : ∃ bb, (b.tmps.getD 35 undef) = .slice (some ⟨bb, 0, none⟩) 0 0 ∧ (wr.heap.size ≤ bb ∧ Ob w' bb 85 []) := h.dep 1 _ 35 (by kernel_rfl) rfl rfl
              have f40 : b.tmps.getD 40 undef = .slice XA xq.length xcap := h.dep 6 _ 40 (by kernel_rfl) rfl rfl
              have g40 : b.tmps[40]?.getD undef = .slice XA xq.length xcap := by rw [← Array.getD_eq_getD_getElem?]; exact f40
              obtain ⟨bb, e35, hbb, hob⟩ := f35
              have g35 : b.tmps[35]?.getD undef = .slice (some ⟨bb, 0, none⟩) 0 0 := by rw [← Array.getD_eq_getD_getElem?]; exact e35
              have hz1 := h.ext.size
              obtain ⟨v41, w41, hr41, ho41, hx41⟩ := run_app_lit (ty := 46) tValP (src_sl Tryz.underlying46 (Sl.ext hrx.out h.ext) (rc_one xq) (by omega)) (by unfold maxLen; omega) (by omega) hbb (by omega) hob
              refine good_grow (w' := w41) (v := v41) (wanted_none rfl) ?_ (Sl.own ho41 (fun k hk => List.mem_range.1 hk)) hx41
              simp [execOp, resolve, invoke, builtin, Act.eval, g35, g40, hr41, Sem.run_bind, Sem.run_pure, Result.andThen_ok]
            · intro b w' h hE
              have f7 : b.tmps.getD 7 undef = .pointer (some ⟨wr.heap.size, 0, none⟩) := hE 7 (of_decide_eq_true (by kernel_rfl))
              have c0 := cell_later h.ext p0.out
              have c1 := cell_later h.ext p1.out
              exact good_load (wanted_none rfl) rfl f7 (by simp [go_sem, c0, c1]) rfl
            · intro b w' h hE
              have f41 : Rw w' (List.range wr.heap.size) (b.tmps.getD 41 undef) xq := h.dep 7 _ 41 (by kernel_rfl) rfl rfl
              have f42 : b.tmps.getD 42 undef = jm (xa, xn) := h.dep 8 _ 42 (by kernel_rfl) rfl rfl
              have g42 : b.tmps[42]?.getD undef = jm (xa, xn) := by rw [← Array.getD_eq_getD_getElem?]; exact f42
              obtain ⟨A, cp, e41⟩ := rw_val f41
              have g41 : b.tmps[41]?.getD undef = .slice A xq.length cp := by rw [← Array.getD_eq_getD_getElem?]; exact e41
              rw [e41] at f41
              exact good_run (wanted_none rfl) (v := em (.slice A xq.length cp) (xa, xn)) (by simp [execOp, Act.eval, go_sem, g41, g42, jm, Sem.run_bind, Sem.run_pure, Result.andThen_ok]) ⟨A, cp, rfl, f41⟩
            · intro b w' h hE
              have f43 : ∃ A cp, (b.tmps.getD 43 undef) = em (.slice A xq.length cp) (xa, xn) ∧ Rw w' (List.range wr.heap.size) (.slice A xq.length cp) xq := h.dep 9 _ 43 (by kernel_rfl) rfl rfl
              obtain ⟨A, cp, e43, hr43⟩ := f43
              have g43 : b.tmps[43]?.getD undef = em (.slice A xq.length cp) (xa, xn) := by rw [← Array.getD_eq_getD_getElem?]; exact e43
              have := buildP1 A xq.length cp (xa, xn) w'
              refine good_grow (w' := w'.alloc (.cells #[.slice A xq.length cp, .int .i64 xa, .int .i64 xn] 48)) (v := .slice (some ⟨w'.heap.size, 0, none⟩) 1 1) (wanted_none rfl) ?_ ⟨_, oneP_new (.slice A xq.length cp) xq (xa, xn) w', Sl.ext hr43 ((Ext.refl _).alloc _)⟩ ((Ext.refl _).alloc _)
              simp [execOp, Act.eval, g43, this, Sem.run_bind, Sem.run_pure, Result.andThen_ok]
          · intro b w2 hX2 hd hz he' hf
            have e34 : b.tmps.getD 34 undef = .slice C N.length ccap := hf 0 _ 34 (by omega) rfl rfl
            have f35 : ∃ bb, (b.tmps.getD 35 undef) = .slice (some ⟨bb, 0, none⟩) 0 0 ∧ (wr.heap.size ≤ bb ∧ Ob w2 bb 85 []) := hf 1 _ 35 (by omega) rfl rfl
            have e36 : b.tmps.getD 36 undef = .slice (some ⟨b0, o0, none⟩) L.length cap := hf 2 _ 36 (by omega) rfl rfl
            have e37 : b.tmps.getD 37 undef = .int .i64 k := hf 3 _ 37 (by omega) rfl rfl
            have e38 : b.tmps.getD 38 undef = .pointer (some ⟨b0, o0 + k * 3, none⟩) := hf 4 _ 38 (by omega) rfl rfl
            have e39 : b.tmps.getD 39 undef = .pointer (some ⟨b0, o0 + k * 3, none⟩) := hf 5 _ 39 (by omega) rfl rfl
            have e40 : b.tmps.getD 40 undef = .slice XA xq.length xcap := hf 6 _ 40 (by omega) rfl rfl
            have f41 : Rw w2 (List.range wr.heap.size) (b.tmps.getD 41 undef) xq := hf 7 _ 41 (by omega) rfl rfl
            have e42 : b.tmps.getD 42 undef = jm (xa, xn) := hf 8 _ 42 (by omega) rfl rfl
            have f43 : ∃ A cp, (b.tmps.getD 43 undef) = em (.slice A xq.length cp) (xa, xn) ∧ Rw w2 (List.range wr.heap.size) (.slice A xq.length cp) xq := hf 9 _ 43 (by omega) rfl rfl
            have f44 : ∃ u, Sl w2 [] 3 (b.tmps.getD 44 undef) 1 (ec1 (u, xq, (xa, xn))) ∧ Rw w2 (List.range wr.heap.size) u xq := hf 10 _ 44 (by omega) rfl rfl
            have e := frame_puts hd hz he'
            obtain ⟨X, hXx⟩ : ∃ X : Nat → Value, ∀ d, b.tmps.getD d undef = X d := ⟨_, fun _ => rfl⟩
            rw [hXx] at e34 e36 e37 e38 e39 e40 e42 f35 f41 f43 f44
            obtain ⟨b35, q35, -, -⟩ := f35
            obtain ⟨A41, c41, q41⟩ := rw_val f41
            obtain ⟨A43, c43, q43, -⟩ := f43
            obtain ⟨u44, f44, r44⟩ := f44
            obtain ⟨A44, c44, q44⟩ := sl_form f44
            rw [show dstsOf _ = [34, 35, 36, 37, 38, 39, 40, 41, 42, 43, 44] from rfl] at e
            simp only [List.foldl_cons, List.foldl_nil, hXx, Act.put, List.setIfInBounds_toArray, List.set_cons_succ, List.set_cons_zero] at e
            rw [e34, e36, e37, e38, e39, e40, e42, q35, q41, q43, q44] at e
            rw [q41] at f41
            replace f41 := hide f41
            rw [q44] at f44
            replace f44 := hide f44
            clear hf he' hz hd hXx e34 e36 e37 e38 e39 e40 e42 q35 q41 q43 q44
            subst e
            have hzw := hX2.size
            simp only [List.drop_succ_cons, List.drop_zero]
            replace r44 := hide r44
            have hone := row_one r44.out
            have hX9 := hide (hX1.out.trans hX2)
            go_wp2_with (at_builtin; (refine wpl_app tPc rfl (.tmp 34) (.tmp 44) rfl rfl (own_ext ho0.out.1 hX9.out) rfl (src_sl Tryz.underlying33 f44.out (ec1_one hone) (by omega)) (by unfold maxLen; show N.length + 1 ≤ _; omega) (by show (N.length + 1) * 40 ≤ _; omega) (Nat.le_trans hzX hX9.out.size) ?_; intro v8 w8 ho8 hg8 hob8; have hX8 := hide (ext_grown (hX.trans hX9.out) hg8 (fun q hq => (ho0.out.1.lt q hq).1))))
            go_roundg (L.length - (k + 1))
            case measure => omega
            case rel =>
              have ho9 : OwnPr w8 w.heap.size v8 (N ++ [(u44, xq, (xa, xn))]) := (ho0.out.ext hX9.out).app (own_appP (M := [(u44, xq, (xa, xn))]) (by simpa [ec, ec1] using ho8)) hg8 hob8 (fun p hp => by
                obtain rfl := List.mem_singleton.1 hp
                refine ⟨_, r44.out, fun q hq => List.mem_range.2 ?_⟩
                rcases List.mem_append.1 hq with hq | hq
                · have := (ob_ge ho0.out.1 q hq).2; omega
                · have := List.mem_range.1 hq; omega)
              exact ⟨k + 1, _, by go_num, by omega, ho9, by rw [List.length_append, List.length_singleton]; omega, by show _ = _; rw [eds, List.map_append]; exact hnx.out, hX8.out⟩
        · skip
          have hmm : max xa t = t := by omega
          rw [hmm] at hnx
          have hX1 : Hid (Ext wr (wr.alloc (.cells #[.int .i64 t, .int .i64 xn] 30))) := hide ((Ext.refl wr).alloc _)
          have O1 : Hid (Ob (wr.alloc (.cells #[.int .i64 t, .int .i64 xn] 30)) wr.heap.size 30 [.int .i64 t, .int .i64 xn]) := hide (Ob.new wr 30 [.int .i64 t, .int .i64 xn])
          have p0 := hide (O1.out.cell 0 rfl)
          have p1 := hide (O1.out.cell 1 rfl)
          have q0 := hide (cell_later hX1.out k0)
          have hrx := hide (Sl.ext hrw hX1.out)
          have hzX1 := hX1.out.size
          have dt : decide (xa < t) = true := by rw [decide_eq_true_iff]; omega
          clear hrw
          go_wp2_with fail
          refine wp_region_list_tail 11 [(.is (.slice C N.length ccap)), litF wr.heap.size, (.is (.slice (some ⟨b0, o0, none⟩) L.length cap)), (.is (.int .i64 k)), (.is (.pointer (some ⟨b0, o0 + k * 3, none⟩))), (.is (.pointer (some ⟨b0, o0 + k * 3, none⟩))), (.is (.slice XA xq.length xcap)), rowF (List.range wr.heap.size) xq, (.is (jm (t, xn))), pcF (List.range wr.heap.size) xq (t, xn), oneP (List.range wr.heap.size) xq (t, xn)] (by kernel_rfl) (by kernel_rfl) (by kernel_rfl) (by kernel_rfl) (by kernel_rfl) (by kernel_rfl) (by kernel_rfl) ?_ ?_
          · refine ⟨?_, ?_, ?_, ?_, ?_, ?_, ?_, ?_, ?_, ?_, ?_, trivial⟩
            · intro b w' h hE
              have f5 : b.tmps.getD 5 undef = .slice C N.length ccap := hE 5 (of_decide_eq_true (by kernel_rfl))
              exact good_move (wanted_none rfl) rfl f5
            · intro b w' h hE
              have hz0 := h.ext.size
              refine good_grow (w' := w'.alloc (.cells #[] 85)) (v := .slice (some ⟨w'.heap.size, 0, none⟩) 0 0) (wanted_none rfl) ?_ ⟨_, rfl, (by omega), Ob.new w' 85 []⟩ ((Ext.refl _).alloc _)
              simp [execOp, Act.eval, buildRow0, Sem.run_bind, Sem.run_pure, Result.andThen_ok]
            · intro b w' h hE
              have f0 : b.tmps.getD 0 undef = .slice (some ⟨b0, o0, none⟩) L.length cap := hE 0 (of_decide_eq_true (by kernel_rfl))
              exact good_move (wanted_none rfl) rfl f0
            · intro b w' h hE
              have f6 : b.tmps.getD 6 undef = .int .i64 k := hE 6 (of_decide_eq_true (by kernel_rfl))
              exact good_move (wanted_none rfl) rfl f6
            · intro b w' h hE
              have f36 : b.tmps.getD 36 undef = .slice (some ⟨b0, o0, none⟩) L.length cap := h.dep 2 _ 36 (by kernel_rfl) rfl rfl
              have f37 : b.tmps.getD 37 undef = .int .i64 k := h.dep 3 _ 37 (by kernel_rfl) rfl rfl
              exact good_index (wanted_none rfl) rfl f36 f37 (by simp [go_sem, hlt]) rfl
            · intro b w' h hE
              have f38 : b.tmps.getD 38 undef = .pointer (some ⟨b0, o0 + k * 3, none⟩) := h.dep 4 _ 38 (by kernel_rfl) rfl rfl
              exact good_field (wanted_none rfl) rfl f38 (by simp [go_sem]) rfl
            · intro b w' h hE
              have f39 : b.tmps.getD 39 undef = .pointer (some ⟨b0, o0 + k * 3, none⟩) := h.dep 5 _ 39 (by kernel_rfl) rfl rfl
              have c0 := cell_later h.ext q0.out
              exact good_load (wanted_none rfl) rfl f39 (by simp [go_sem, c0]) rfl
            · intro b w' h hE
              have f35 : ∃ bb, (b.tmps.getD 35 undef) = .slice (some ⟨bb, 0, none⟩) 0 0 ∧ (wr.heap.size ≤ bb ∧ Ob w' bb 85 []) := h.dep 1 _ 35 (by kernel_rfl) rfl rfl
              have f40 : b.tmps.getD 40 undef = .slice XA xq.length xcap := h.dep 6 _ 40 (by kernel_rfl) rfl rfl
              have g40 : b.tmps[40]?.getD undef = .slice XA xq.length xcap := by rw [← Array.getD_eq_getD_getElem?]; exact f40
              obtain ⟨bb, e35, hbb, hob⟩ := f35
              have g35 : b.tmps[35]?.getD undef = .slice (some ⟨bb, 0, none⟩) 0 0 := by rw [← Array.getD_eq_getD_getElem?]; exact e35
              have hz1 := h.ext.size
              obtain ⟨v41, w41, hr41, ho41, hx41⟩ := run_app_lit (ty := 46) tValP (src_sl Tryz.underlying46 (Sl.ext hrx.out h.ext) (rc_one xq) (by omega)) (by unfold maxLen; omega) (by omega) hbb (by omega) hob
              refine good_grow (w' := w41) (v := v41) (wanted_none rfl) ?_ (Sl.own ho41 (fun k hk => List.mem_range.1 hk)) hx41
              simp [execOp, resolve, invoke, builtin, Act.eval, g35, g40, hr41, Sem.run_bind, Sem.run_pure, Result.andThen_ok]
            · intro b w' h hE
              have f7 : b.tmps.getD 7 undef = .pointer (some ⟨wr.heap.size, 0, none⟩) := hE 7 (of_decide_eq_true (by kernel_rfl))
              have c0 := cell_later h.ext p0.out
              have c1 := cell_later h.ext p1.out
              exact good_load (wanted_none rfl) rfl f7 (by simp [go_sem, c0, c1]) rfl
            · intro b w' h hE
              have f41 : Rw w' (List.range wr.heap.size) (b.tmps.getD 41 undef) xq := h.dep 7 _ 41 (by kernel_rfl) rfl rfl
              have f42 : b.tmps.getD 42 undef = jm (t, xn) := h.dep 8 _ 42 (by kernel_rfl) rfl rfl
              have g42 : b.tmps[42]?.getD undef = jm (t, xn) := by rw [← Array.getD_eq_getD_getElem?]; exact f42
              obtain ⟨A, cp, e41⟩ := rw_val f41
              have g41 : b.tmps[41]?.getD undef = .slice A xq.length cp := by rw [← Array.getD_eq_getD_getElem?]; exact e41
              rw [e41] at f41
              exact good_run (wanted_none rfl) (v := em (.slice A xq.length cp) (t, xn)) (by simp [execOp, Act.eval, go_sem, g41, g42, jm, Sem.run_bind, Sem.run_pure, Result.andThen_ok]) ⟨A, cp, rfl, f41⟩
            · intro b w' h hE
              have f43 : ∃ A cp, (b.tmps.getD 43 undef) = em (.slice A xq.length cp) (t, xn) ∧ Rw w' (List.range wr.heap.size) (.slice A xq.length cp) xq := h.dep 9 _ 43 (by kernel_rfl) rfl rfl
              obtain ⟨A, cp, e43, hr43⟩ := f43
              have g43 : b.tmps[43]?.getD undef = em (.slice A xq.length cp) (t, xn) := by rw [← Array.getD_eq_getD_getElem?]; exact e43
              have := buildP1 A xq.length cp (t, xn) w'
              refine good_grow (w' := w'.alloc (.cells #[.slice A xq.length cp, .int .i64 t, .int .i64 xn] 48)) (v := .slice (some ⟨w'.heap.size, 0, none⟩) 1 1) (wanted_none rfl) ?_ ⟨_, oneP_new (.slice A xq.length cp) xq (t, xn) w', Sl.ext hr43 ((Ext.refl _).alloc _)⟩ ((Ext.refl _).alloc _)
              simp [execOp, Act.eval, g43, this, Sem.run_bind, Sem.run_pure, Result.andThen_ok]
          · intro b w2 hX2 hd hz he' hf
            have e34 : b.tmps.getD 34 undef = .slice C N.length ccap := hf 0 _ 34 (by omega) rfl rfl
            have f35 : ∃ bb, (b.tmps.getD 35 undef) = .slice (some ⟨bb, 0, none⟩) 0 0 ∧ (wr.heap.size ≤ bb ∧ Ob w2 bb 85 []) := hf 1 _ 35 (by omega) rfl rfl
            have e36 : b.tmps.getD 36 undef = .slice (some ⟨b0, o0, none⟩) L.length cap := hf 2 _ 36 (by omega) rfl rfl
            have e37 : b.tmps.getD 37 undef = .int .i64 k := hf 3 _ 37 (by omega) rfl rfl
            have e38 : b.tmps.getD 38 undef = .pointer (some ⟨b0, o0 + k * 3, none⟩) := hf 4 _ 38 (by omega) rfl rfl
            have e39 : b.tmps.getD 39 undef = .pointer (some ⟨b0, o0 + k * 3, none⟩) := hf 5 _ 39 (by omega) rfl rfl
            have e40 : b.tmps.getD 40 undef = .slice XA xq.length xcap := hf 6 _ 40 (by omega) rfl rfl
            have f41 : Rw w2 (List.range wr.heap.size) (b.tmps.getD 41 undef) xq := hf 7 _ 41 (by omega) rfl rfl
            have e42 : b.tmps.getD 42 undef = jm (t, xn) := hf 8 _ 42 (by omega) rfl rfl
            have f43 : ∃ A cp, (b.tmps.getD 43 undef) = em (.slice A xq.length cp) (t, xn) ∧ Rw w2 (List.range wr.heap.size) (.slice A xq.length cp) xq := hf 9 _ 43 (by omega) rfl rfl
            have f44 : ∃ u, Sl w2 [] 3 (b.tmps.getD 44 undef) 1 (ec1 (u, xq, (t, xn))) ∧ Rw w2 (List.range wr.heap.size) u xq := hf 10 _ 44 (by omega) rfl rfl
            have e := frame_puts hd hz he'
            obtain ⟨X, hXx⟩ : ∃ X : Nat → Value, ∀ d, b.tmps.getD d undef = X d := ⟨_, fun _ => rfl⟩
            rw [hXx] at e34 e36 e37 e38 e39 e40 e42 f35 f41 f43 f44
            obtain ⟨b35, q35, -, -⟩ := f35
            obtain ⟨A41, c41, q41⟩ := rw_val f41
            obtain ⟨A43, c43, q43, -⟩ := f43
            obtain ⟨u44, f44, r44⟩ := f44
            obtain ⟨A44, c44, q44⟩ := sl_form f44
            rw [show dstsOf _ = [34, 35, 36, 37, 38, 39, 40, 41, 42, 43, 44] from rfl] at e
            simp only [List.foldl_cons, List.foldl_nil, hXx, Act.put, List.setIfInBounds_toArray, List.set_cons_succ, List.set_cons_zero] at e
            rw [e34, e36, e37, e38, e39, e40, e42, q35, q41, q43, q44] at e
            rw [q41] at f41
            replace f41 := hide f41
            rw [q44] at f44
            replace f44 := hide f44
            clear hf he' hz hd hXx e34 e36 e37 e38 e39 e40 e42 q35 q41 q43 q44
            subst e
            have hzw := hX2.size
            simp only [List.drop_succ_cons, List.drop_zero]
            replace r44 := hide r44
            have hone := row_one r44.out
            have hX9 := hide (hX1.out.trans hX2)
            go_wp2_with (at_builtin; (refine wpl_app tPc rfl (.tmp 34) (.tmp 44) rfl rfl (own_ext ho0.out.1 hX9.out) rfl (src_sl Tryz.underlying33 f44.out (ec1_one hone) (by omega)) (by unfold maxLen; show N.length + 1 ≤ _; omega) (by show (N.length + 1) * 40 ≤ _; omega) (Nat.le_trans hzX hX9.out.size) ?_; intro v8 w8 ho8 hg8 hob8; have hX8 := hide (ext_grown (hX.trans hX9.out) hg8 (fun q hq => (ho0.out.1.lt q hq).1))))
            go_roundg (L.length - (k + 1))
            case measure => omega
            case rel =>
              have ho9 : OwnPr w8 w.heap.size v8 (N ++ [(u44, xq, (t, xn))]) := (ho0.out.ext hX9.out).app (own_appP (M := [(u44, xq, (t, xn))]) (by simpa [ec, ec1] using ho8)) hg8 hob8 (fun p hp => by
                obtain rfl := List.mem_singleton.1 hp
                refine ⟨_, r44.out, fun q hq => List.mem_range.2 ?_⟩
                rcases List.mem_append.1 hq with hq | hq
                · have := (ob_ge ho0.out.1 q hq).2; omega
                · have := List.mem_range.1 hq; omega)
              exact ⟨k + 1, _, by go_num, by omega, ho9, by rw [List.length_append, List.length_singleton]; omega, by show _ = _; rw [eds, List.map_append]; exact hnx.out, hX8.out⟩
      · have d1 : decide (t < xn) = false := decide_eq_false hc
        unfold pcRe at hnx
        rw [if_neg hc, List.append_nil] at hnx
        by_cases hm : xa < t
        · have dt : decide (xa < t) = true := decide_eq_true hm
          have hX1 : Hid (Ext wr (wr.alloc (.cells #[.int .i64 t, .int .i64 xn] 30))) := hide ((Ext.refl wr).alloc _)
          clear hrw
          go_wp2_with fail
          go_roundg (L.length - (k + 1))
          case measure => omega
          case rel => exact ⟨k + 1, _, by go_num, by omega, ho0.out.ext hX1.out, by omega, hnx, hX.trans hX1.out⟩
        · have dt : decide (xa < t) = false := decide_eq_false hm
          have hX1 : Hid (Ext wr (wr.alloc (.cells #[.int .i64 xa, .int .i64 xn] 30))) := hide ((Ext.refl wr).alloc _)
          clear hrw
          go_wp2_with fail
          go_roundg (L.length - (k + 1))
          case measure => omega
          case rel => exact ⟨k + 1, _, by go_num, by omega, ho0.out.ext hX1.out, by omega, hnx, hX.trans hX1.out⟩
    · have hk' : k = L.length := by omega
      have hge : (L.length : Int) ≤ k := by omega
      have hN2 := hN.out
      rw [hk', List.take_length] at hN2
      replace hN2 := hide hN2
      replace hk' := hide hk'
      obtain ⟨C, ccap, rfl⟩ := own_form ho.1
      clear hN hat
      go_wp2_with fail
      go_returns
      exact ⟨_, N, rfl, hN2.out, ho, hX⟩
end Go.Proofs.YtgniebjigphcgaaGreat
