/-
  A helper of ours: no claim of its own. Layer 9 (step): the document's side: jumps put together.
-/
import Derived.Test.YtiknkcadbaeknaaGreatReg5
import Derived.Test.YtiknkcadbaeknaaGreatStepR
import Derived.Test.YtiknkcadbaeknaaGreatFolO
import Derived.Test.YtiknkcadbaeknaaGreatStepV
set_option linter.unusedVariables false
set_option linter.unusedSimpArgs false
namespace Go.Proofs.YtiknkcadbaeknaaGreat
open Go.RowKit
attribute [local go_sem] GW.cell GW.frozen In.eq_true In.le_true In.ne In.ne' In.ne_add In.ne_add' In.lt_add Upto.le_true Upto.le_add Upto.lt_add
theorem fr_cell {K : List Nat} {w wr : World} {b o : Nat} (h : Fr K w wr) (hb : b < w.heap.size) (hn : b ∉ K) : wr.cell? ⟨b, o, none⟩ = w.cell? ⟨b, o, none⟩ := by simp only [World.cell?, h.block b hb hn]
set_option maxHeartbeats 8000000 in
set_option maxRecDepth 100000 in
theorem refPutG_c (K : List Nat) (base : Nat) (L : List Ve) (r : List Vl) (f : List Jp) (v u x : Value) (w : World) (hv : OwnEr w base v L) (hbw : base ≤ w.heap.size) (hob : ∀ q, v.ownBlock = some q → q ∈ K) (hr : Rw w K u r) (hr8 : r.length ≤ 1000000000) (hf : Jw w K x f) (hfl : L.length + f.length ≤ 1000000000) : Calls Tryz.prog 217 #[v, u, x] w fun e w' => ∃ v' M, e = .returned v' ∧ eds M = f.map (fun j => (r, j)) ∧ OwnEr w' base v' (L ++ M) ∧ Fr K w w' ∧ ∀ q, v'.ownBlock = some q → q ∈ K ∨ w.heap.size ≤ q := by
  obtain ⟨B, fcap, rfl, hl, hm, hat⟩ := jw_form hf
  unfold maxLen at hm
  replace hat := hide hat
  have hrw := hide hr
  obtain ⟨RA, rcap, rfl⟩ := rw_val hr
  clear hf hr
  have hob0 : Hid (∀ q, v.ownBlock = some q → q ∈ K ∨ w.heap.size ≤ q) := fun q hq => .inl (hob q hq)
  clear hob
  obtain ⟨VA, vcap, hve⟩ := own_form hv.1
  subst hve
  replace hv := hide hv
  go_enter Tryz.func217, Tryz.ntmps217
  go_wp2_with fail
  go_loopg [0, 7] f.length (fun gh vv i wr => ∃ (k : Nat) (acc Y : List Ve), i = .int .i64 k ∧ k + gh = f.length ∧ OwnEr wr base vv Y ∧ Y.length ≤ L.length + k ∧ Hid (Y = L ++ acc) ∧ Hid (eds acc = (f.take k).map fun j => (r, j)) ∧ Fr K w wr ∧ Hid (∀ q, vv.ownBlock = some q → q ∈ K ∨ w.heap.size ≤ q))
  case atStart => exact ⟨0, [], L, rfl, by omega, hv.out, Nat.le_refl _, (by show _ = _; simp), rfl, Fr.refl K w, hob0⟩
  case round =>
    obtain ⟨k, acc, Y, rfl, hk, ho, hak, hY, hacc, hX, hob⟩ := hrel
    have hzX := hX.size
    have hzw0 : w.heap.size ≤ wr.heap.size := hzX
    by_cases hlt : k < f.length
    · obtain ⟨⟨ja, jn⟩, hx⟩ : ∃ j, f[k]? = some j := ⟨_, List.getElem?_eq_getElem hlt⟩
      obtain ⟨b0, o0, rfl, hbn, hb', c0, c1⟩ := hat.out k _ hx
      have k0 := (fr_cell (o := o0 + k * 2) hX hb' hbn).trans c0
      have hbr : b0 < wr.heap.size := block_lt_of_cell k0
      have q1 := hide k0
      have q2 := hide ((fr_cell (o := o0 + k * 2 + 1) hX hb' hbn).trans c1)
      have hrx := hide (Sl.fr hrw.out hX (fun _ h => h))
      have hnx := hide (show eds acc ++ [(r, (ja, jn))] = (f.take (k + 1)).map fun j => (r, j) by rw [List.take_add_one, hx, hacc.out]; simp)
      have ho0 := hide ho
      obtain ⟨C, ccap, rfl⟩ := own_form ho.1
      replace ho := hide ho
      clear c0 c1 k0 hat hx hacc hrw hbn hv hob0
      go_wp2_with fail
      refine wp_region_list_tail 16 [(.is (.slice C Y.length ccap)), litF wr.heap.size, (.is (.slice RA r.length rcap)), rowF (List.range wr.heap.size) r, (.is (.slice (some ⟨b0, o0, none⟩) f.length fcap)), (.is (.int .i64 k)), (.is (.pointer (some ⟨b0, o0 + k * 2, none⟩))), (.is (.pointer (some ⟨b0, o0 + k * 2, none⟩))), (.is (.int .i64 ja)), (.is (.slice (some ⟨b0, o0, none⟩) f.length fcap)), (.is (.int .i64 k)), (.is (.pointer (some ⟨b0, o0 + k * 2, none⟩))), (.is (.pointer (some ⟨b0, o0 + k * 2 + 1, none⟩))), (.is (.int .i64 jn)), edgF (List.range wr.heap.size) r (ja, jn), oneE (List.range wr.heap.size) r (ja, jn)] (by kernel_rfl) (by kernel_rfl) (by kernel_rfl) (by kernel_rfl) (by kernel_rfl) (by kernel_rfl) (by kernel_rfl) ?_ ?_
      · refine ⟨?_, ?_, ?_, ?_, ?_, ?_, ?_, ?_, ?_, ?_, ?_, ?_, ?_, ?_, ?_, ?_, trivial⟩
        · intro b w' h hE
          have f0 : b.tmps.getD 0 undef = .slice C Y.length ccap := hE 0 (of_decide_eq_true (by kernel_rfl))
          exact good_move (wanted_none rfl) rfl f0
        · intro b w' h hE
          have hz0 := h.ext.size
          refine good_grow (w' := w'.alloc (.cells #[] 93)) (v := .slice (some ⟨w'.heap.size, 0, none⟩) 0 0) (wanted_none rfl) ?_ ⟨_, rfl, hz0, Ob.new w' 93 []⟩ ((Ext.refl _).alloc _)
          simp [execOp, Act.eval, buildRow0, Sem.run_bind, Sem.run_pure, Result.andThen_ok]
        · intro b w' h hE
          have f1 : b.tmps.getD 1 undef = .slice RA r.length rcap := hE 1 (of_decide_eq_true (by kernel_rfl))
          exact good_move (wanted_none rfl) rfl f1
        · intro b w' h hE
          have f15 : ∃ bb, (b.tmps.getD 15 undef) = .slice (some ⟨bb, 0, none⟩) 0 0 ∧ (wr.heap.size ≤ bb ∧ Ob w' bb 93 []) := h.dep 1 _ 15 (by kernel_rfl) rfl rfl
          have f16 : b.tmps.getD 16 undef = .slice RA r.length rcap := h.dep 2 _ 16 (by kernel_rfl) rfl rfl
          have g16 : b.tmps[16]?.getD undef = .slice RA r.length rcap := by rw [← Array.getD_eq_getD_getElem?]; exact f16
          obtain ⟨bb, e15, hbb, hob⟩ := f15
          have g15 : b.tmps[15]?.getD undef = .slice (some ⟨bb, 0, none⟩) 0 0 := by rw [← Array.getD_eq_getD_getElem?]; exact e15
          obtain ⟨v17, w17, hr17, ho17, hx17⟩ := run_app_lit (ty := 40) tValP (src_sl Tryz.underlying40 (Sl.ext hrx.out h.ext) (rc_one r) (by omega)) (by unfold maxLen; omega) (by omega) hbb h.ext.size hob
          refine good_grow (w' := w17) (v := v17) (wanted_none rfl) ?_ (Sl.own ho17 (fun k hk => List.mem_range.1 hk)) hx17
          simp [execOp, resolve, invoke, builtin, Act.eval, g15, g16, hr17, Sem.run_bind, Sem.run_pure, Result.andThen_ok]
        · intro b w' h hE
          have f2 : b.tmps.getD 2 undef = .slice (some ⟨b0, o0, none⟩) f.length fcap := hE 2 (of_decide_eq_true (by kernel_rfl))
          exact good_move (wanted_none rfl) rfl f2
        · intro b w' h hE
          have f7 : b.tmps.getD 7 undef = .int .i64 k := hE 7 (of_decide_eq_true (by kernel_rfl))
          exact good_move (wanted_none rfl) rfl f7
        · intro b w' h hE
          have f18 : b.tmps.getD 18 undef = .slice (some ⟨b0, o0, none⟩) f.length fcap := h.dep 4 _ 18 (by kernel_rfl) rfl rfl
          have f19 : b.tmps.getD 19 undef = .int .i64 k := h.dep 5 _ 19 (by kernel_rfl) rfl rfl
          exact good_index (wanted_none rfl) rfl f18 f19 (by simp [go_sem, hlt]) rfl
        · intro b w' h hE
          have f20 : b.tmps.getD 20 undef = .pointer (some ⟨b0, o0 + k * 2, none⟩) := h.dep 6 _ 20 (by kernel_rfl) rfl rfl
          exact good_field (wanted_none rfl) rfl f20 (by simp [go_sem]) rfl
        · intro b w' h hE
          have f21 : b.tmps.getD 21 undef = .pointer (some ⟨b0, o0 + k * 2, none⟩) := h.dep 7 _ 21 (by kernel_rfl) rfl rfl
          have c0 := cell_later h.ext q1.out
          exact good_load (wanted_none rfl) rfl f21 (by simp [go_sem, c0]) rfl
        · intro b w' h hE
          have f2 : b.tmps.getD 2 undef = .slice (some ⟨b0, o0, none⟩) f.length fcap := hE 2 (of_decide_eq_true (by kernel_rfl))
          exact good_move (wanted_none rfl) rfl f2
        · intro b w' h hE
          have f7 : b.tmps.getD 7 undef = .int .i64 k := hE 7 (of_decide_eq_true (by kernel_rfl))
          exact good_move (wanted_none rfl) rfl f7
        · intro b w' h hE
          have f23 : b.tmps.getD 23 undef = .slice (some ⟨b0, o0, none⟩) f.length fcap := h.dep 9 _ 23 (by kernel_rfl) rfl rfl
          have f24 : b.tmps.getD 24 undef = .int .i64 k := h.dep 10 _ 24 (by kernel_rfl) rfl rfl
          exact good_index (wanted_none rfl) rfl f23 f24 (by simp [go_sem, hlt]) rfl
        · intro b w' h hE
          have f25 : b.tmps.getD 25 undef = .pointer (some ⟨b0, o0 + k * 2, none⟩) := h.dep 11 _ 25 (by kernel_rfl) rfl rfl
          exact good_field (wanted_none rfl) rfl f25 (by simp [go_sem]) rfl
        · intro b w' h hE
          have f26 : b.tmps.getD 26 undef = .pointer (some ⟨b0, o0 + k * 2 + 1, none⟩) := h.dep 12 _ 26 (by kernel_rfl) rfl rfl
          have c0 := cell_later h.ext q2.out
          exact good_load (wanted_none rfl) rfl f26 (by simp [go_sem, c0]) rfl
        · intro b w' h hE
          have f17 : Rw w' (List.range wr.heap.size) (b.tmps.getD 17 undef) r := h.dep 3 _ 17 (by kernel_rfl) rfl rfl
          have f22 : b.tmps.getD 22 undef = .int .i64 ja := h.dep 8 _ 22 (by kernel_rfl) rfl rfl
          have g22 : b.tmps[22]?.getD undef = .int .i64 ja := by rw [← Array.getD_eq_getD_getElem?]; exact f22
          have f27 : b.tmps.getD 27 undef = .int .i64 jn := h.dep 13 _ 27 (by kernel_rfl) rfl rfl
          have g27 : b.tmps[27]?.getD undef = .int .i64 jn := by rw [← Array.getD_eq_getD_getElem?]; exact f27
          obtain ⟨A, cp, e17⟩ := rw_val f17
          have g17 : b.tmps[17]?.getD undef = .slice A r.length cp := by rw [← Array.getD_eq_getD_getElem?]; exact e17
          rw [e17] at f17
          exact good_run (wanted_none rfl) (v := em (.slice A r.length cp) (ja, jn)) (by simp [execOp, Act.eval, go_sem, g17, g22, g27, Sem.run_bind, Sem.run_pure, Result.andThen_ok]) ⟨A, cp, rfl, f17⟩
        · intro b w' h hE
          have f28 : ∃ A cp, (b.tmps.getD 28 undef) = em (.slice A r.length cp) (ja, jn) ∧ Rw w' (List.range wr.heap.size) (.slice A r.length cp) r := h.dep 14 _ 28 (by kernel_rfl) rfl rfl
          obtain ⟨A, cp, e28, hr28⟩ := f28
          have g28 : b.tmps[28]?.getD undef = em (.slice A r.length cp) (ja, jn) := by rw [← Array.getD_eq_getD_getElem?]; exact e28
          have := buildE1 A r.length cp (ja, jn) w'
          refine good_grow (w' := w'.alloc (.cells #[.slice A r.length cp, .int .i64 ja, .int .i64 jn] 147)) (v := .slice (some ⟨w'.heap.size, 0, none⟩) 1 1) (wanted_none rfl) ?_ ⟨_, oneE_new (.slice A r.length cp) r (ja, jn) w', Sl.ext hr28 ((Ext.refl _).alloc _)⟩ ((Ext.refl _).alloc _)
          simp [execOp, Act.eval, g28, this, Sem.run_bind, Sem.run_pure, Result.andThen_ok]
      · intro b w2 hX2 hd hz he' hf
        have e14 : b.tmps.getD 14 undef = .slice C Y.length ccap := hf 0 _ 14 (by omega) rfl rfl
        have f15 : ∃ bb, (b.tmps.getD 15 undef) = .slice (some ⟨bb, 0, none⟩) 0 0 ∧ (wr.heap.size ≤ bb ∧ Ob w2 bb 93 []) := hf 1 _ 15 (by omega) rfl rfl
        have e16 : b.tmps.getD 16 undef = .slice RA r.length rcap := hf 2 _ 16 (by omega) rfl rfl
        have f17 : Rw w2 (List.range wr.heap.size) (b.tmps.getD 17 undef) r := hf 3 _ 17 (by omega) rfl rfl
        have e18 : b.tmps.getD 18 undef = .slice (some ⟨b0, o0, none⟩) f.length fcap := hf 4 _ 18 (by omega) rfl rfl
        have e19 : b.tmps.getD 19 undef = .int .i64 k := hf 5 _ 19 (by omega) rfl rfl
        have e20 : b.tmps.getD 20 undef = .pointer (some ⟨b0, o0 + k * 2, none⟩) := hf 6 _ 20 (by omega) rfl rfl
        have e21 : b.tmps.getD 21 undef = .pointer (some ⟨b0, o0 + k * 2, none⟩) := hf 7 _ 21 (by omega) rfl rfl
        have e22 : b.tmps.getD 22 undef = .int .i64 ja := hf 8 _ 22 (by omega) rfl rfl
        have e23 : b.tmps.getD 23 undef = .slice (some ⟨b0, o0, none⟩) f.length fcap := hf 9 _ 23 (by omega) rfl rfl
        have e24 : b.tmps.getD 24 undef = .int .i64 k := hf 10 _ 24 (by omega) rfl rfl
        have e25 : b.tmps.getD 25 undef = .pointer (some ⟨b0, o0 + k * 2, none⟩) := hf 11 _ 25 (by omega) rfl rfl
        have e26 : b.tmps.getD 26 undef = .pointer (some ⟨b0, o0 + k * 2 + 1, none⟩) := hf 12 _ 26 (by omega) rfl rfl
        have e27 : b.tmps.getD 27 undef = .int .i64 jn := hf 13 _ 27 (by omega) rfl rfl
        have f28 : ∃ A cp, (b.tmps.getD 28 undef) = em (.slice A r.length cp) (ja, jn) ∧ Rw w2 (List.range wr.heap.size) (.slice A r.length cp) r := hf 14 _ 28 (by omega) rfl rfl
        have f29 : ∃ u, Sl w2 [] 3 (b.tmps.getD 29 undef) 1 (ec1 (u, r, (ja, jn))) ∧ Rw w2 (List.range wr.heap.size) u r := hf 15 _ 29 (by omega) rfl rfl
        have e := frame_puts hd hz he'
        obtain ⟨X, hXx⟩ : ∃ X : Nat → Value, ∀ d, b.tmps.getD d undef = X d := ⟨_, fun _ => rfl⟩
        rw [hXx] at e14 e16 e18 e19 e20 e21 e22 e23 e24 e25 e26 e27 f15 f17 f28 f29
        obtain ⟨b15, q15, -, -⟩ := f15
        obtain ⟨A17, c17, q17⟩ := rw_val f17
        obtain ⟨A28, c28, q28, -⟩ := f28
        obtain ⟨u29, f29, r29⟩ := f29
        obtain ⟨A29, c29, q29⟩ := sl_form f29
        rw [show dstsOf _ = [14, 15, 16, 17, 18, 19, 20, 21, 22, 23, 24, 25, 26, 27, 28, 29] from rfl] at e
        simp only [List.foldl_cons, List.foldl_nil, hXx, Act.put, List.setIfInBounds_toArray, List.set_cons_succ, List.set_cons_zero] at e
        rw [e14, e16, e18, e19, e20, e21, e22, e23, e24, e25, e26, e27, q15, q17, q28, q29] at e
        rw [q17] at f17
        replace f17 := hide f17
        rw [q29] at f29
        replace f29 := hide f29
        clear hf he' hz hd hXx e14 e16 e18 e19 e20 e21 e22 e23 e24 e25 e26 e27 q15 q17 q28 q29
        subst e
        have hzw := hX2.size
        simp only [List.drop_succ_cons, List.drop_zero]
        replace r29 := hide r29
        have hone := row_one r29.out
        go_wp2_with (at_builtin; (refine wpl_app tEdg rfl (.tmp 14) (.tmp 29) rfl rfl (own_ext ho.out.1 hX2) rfl (src_sl Tryz.underlying83 f29.out (ec1_one hone) (by omega)) (by unfold maxLen; omega) (by omega) (by omega) ?_; intro v8 w8 ho8 hg8 hob8; have hX8 := hide ((hX.then (S' := []) (Fr.of_ext hX2) (by simp)).grown hg8 hob.out)))
        go_roundg (f.length - (k + 1))
        case measure => omega
        case rel =>
          have ho9 : OwnEr w8 base v8 (Y ++ [(u29, r, (ja, jn))]) := (ho.out.ext hX2).app (own_appE (M := [(u29, r, (ja, jn))]) (by simpa [ec, ec1] using ho8)) hg8 hob8 (fun p hp => by
            obtain rfl := List.mem_singleton.1 hp
            refine ⟨_, r29.out, fun q hq => List.mem_range.2 ?_⟩
            rcases List.mem_append.1 hq with hq | hq
            · have := (ob_ge ho0.out.1 q hq).2; omega
            · have := List.mem_range.1 hq; omega)
          have hob9 : Hid (∀ q, v8.ownBlock = some q → q ∈ K ∨ w.heap.size ≤ q) := fun q hq => by
            rcases hob8 with h8 | h8
            · exact hob.out q (h8.symm.trans hq)
            · rw [h8] at hq; obtain rfl := Option.some.inj hq; right; omega
          exact ⟨k + 1, acc ++ [(u29, r, (ja, jn))], Y ++ [(u29, r, (ja, jn))], by go_num, by omega, ho9, by rw [List.length_append, List.length_singleton]; omega, (by show _ = _; rw [hY.out, List.append_assoc]), by show _ = _; rw [eds, List.map_append]; exact hnx.out, hX8.out, hob9⟩
    · have hk' : k = f.length := by omega
      have hge : (f.length : Int) ≤ k := by omega
      have hac := hacc.out
      rw [List.take_of_length_le (by omega)] at hac
      replace hac := hide hac
      replace hk' := hide hk'
      obtain ⟨C, ccap, rfl⟩ := own_form ho.1
      replace ho := hide ho
      clear hacc hv hob0
      go_wp2_with fail
      go_returns
      exact ⟨_, acc, rfl, hac.out, hY.out ▸ ho.out, hX, hob.out⟩
end Go.Proofs.YtiknkcadbaeknaaGreat
set_option linter.unusedVariables false
set_option linter.unusedSimpArgs false
namespace Go.Proofs.YtiknkcadbaeknaaGreat
open Go.RowKit
attribute [local go_sem] GW.cell GW.frozen In.eq_true In.le_true In.ne In.ne' In.ne_add In.ne_add' In.lt_add Upto.le_true Upto.le_add Upto.lt_add
theorem map_next {ps : List Int} {k : Nat} {p : Int} (vf : Int → Int) (hp : ps[k]? = some p) : (ps.take (k + 1)).map vf = (ps.take k).map vf ++ [vf p] := by
  rw [take_snoc hp, List.map_append]; rfl
theorem jv_60 {l : List Jp} (hb : ∀ j ∈ l, -1048576 ≤ j.2 ∧ j.2 ≤ 1048576) (hn : l.length ≤ 4096) (t : Int) : -4294967296 ≤ jv l t ∧ jv l t ≤ 4294967296 := by
  have := jv_small hb hn l.length t
  rwa [List.take_length] at this
end Go.Proofs.YtiknkcadbaeknaaGreat
set_option linter.unusedVariables false
set_option linter.unusedSimpArgs false
namespace Go.Proofs.YtiknkcadbaeknaaGreat
open Go.RowKit
attribute [local go_sem] GW.cell GW.frozen In.eq_true In.le_true In.ne In.ne' In.ne_add In.ne_add' In.lt_add Upto.le_true Upto.le_add Upto.lt_add
theorem inF_next {l : List Jp} {k : Nat} {x : Jp} (hx : l[k]? = some x) : inF (l.take (k + 1)) = if x.1 = 1125899906842624 then inF (l.take k) else inF (l.take k) ++ [x] := by
  unfold inF
  rw [take_snoc hx, List.filter_append]
  by_cases h : x.1 = 1125899906842624
  · rw [if_pos h]; simp [h]
  · rw [if_neg h]; simp [h]
theorem inF_len (l : List Jp) : (inF l).length ≤ l.length := List.length_filter_le _ _
theorem any_next {l : List Jp} {k : Nat} {x : Jp} {p : Jp → Bool} (h : (l.take k).any p = false) (hx : l[k]? = some x) (hp : p x = false) : (l.take (k + 1)).any p = false := by
  rw [take_snoc hx, List.any_append, h]; simp [hp]
theorem any_yes {l : List Jp} {k : Nat} {x : Jp} {p : Jp → Bool} (hx : l[k]? = some x) (hp : p x = true) : l.any p = true := List.any_eq_true.2 ⟨x, List.mem_of_getElem? hx, hp⟩
set_option maxHeartbeats 8000000 in
set_option maxRecDepth 100000 in
theorem refNorm_c (l : List Jp) (hn : l.length ≤ 1024) (v : Value) (w : World) (h : Jw w [] v l) : Calls Tryz.prog 216 #[v] w fun e w' => ∃ v', e = .returned (.tuple #[v', .int .i64 (nmE l)]) ∧ OwnJ w' w.heap.size v' (nmR l) ∧ Ext w w' := by
  have hv0 := hide (fun (hb : ∀ j ∈ l, -1048576 ≤ j.2 ∧ j.2 ≤ 1048576) p w' (hX : Ext w w') => refValue_c l hb (by omega) p v w' (Sl.ext h hX))
  obtain ⟨A, cap, rfl, hl, hm, hat⟩ := jw_form h
  unfold maxLen at hm
  replace hat := hide hat
  have hnI : (l.length : Int) ≤ 1024 := by omega
  have hnd := hide hn
  obtain ⟨E, hE⟩ : ∃ E, E = nmE l := ⟨_, rfl⟩
  obtain ⟨R, hR⟩ : ∃ R, R = nmR l := ⟨_, rfl⟩
  rw [← hE, ← hR]
  replace hE := hide hE
  replace hR := hide hR
  clear h
  go_enter Tryz.func216, Tryz.ntmps216
  go_wp2_with fail
  go_loopg [4] l.length (fun gh i wr => ∃ (k : Nat), i = .int .i64 k ∧ k + gh = l.length ∧ Hid ((l.take k).any tooJ = false) ∧ Ext w wr)
  case atStart => exact ⟨0, rfl, by omega, rfl, Ext.refl w⟩
  case round =>
    obtain ⟨k, rfl, hk, hno, hX⟩ := hrel
    by_cases hlt : k < l.length
    · obtain ⟨x, hx⟩ : ∃ x, l[k]? = some x := ⟨_, List.getElem?_eq_getElem hlt⟩
      obtain ⟨b, o, rfl, -, hbl, c0, c1⟩ := hat.out k x hx
      have k1 := jcell_later hX c1
      have hbr : b < wr.heap.size := block_lt_of_cell k1
      cases ht : tooJ x
      · have hno' : Hid ((l.take (k + 1)).any tooJ = false) := any_next hno.out hx ht
        unfold tooJ at ht
        rw [decide_eq_false_iff_not] at ht
        have d1 : decide (1048576 < x.2) = false := by rw [decide_eq_false_iff_not]; omega
        have d2 : decide (x.2 < -1048576) = false := by rw [decide_eq_false_iff_not]; omega
        obtain ⟨xp, xn⟩ := x
        simp only at k1 d1 d2
        clear c0 c1 hx ht hno hv0
        go_wp2_with fail
        go_roundg (l.length - (k + 1))
        case measure => omega
        case rel => exact ⟨k + 1, by go_num, by omega, hno', hX⟩
      · have e1 : Hid (E = 2 ∧ R = []) := by
          have h1 : nmE l = 2 := by unfold nmE; rw [any_yes hx ht]; rfl
          refine ⟨hE.out.trans h1, hR.out.trans ?_⟩
          unfold nmR; rw [h1, if_neg (by decide)]
        unfold tooJ at ht
        rw [decide_eq_true_iff] at ht
        obtain ⟨xp, xn⟩ := x
        simp only at k1 ht
        clear c0 c1 hx hno hv0
        by_cases h1 : 1048576 < xn
        · clear ht
          go_wp2_with fail
          go_returns
          rw [e1.out.1, e1.out.2]
          exact ⟨_, rfl, World.ownsRow_nil _ _ _ _, hX⟩
        · have d1 : decide (1048576 < xn) = false := by rw [decide_eq_false_iff_not]; exact h1
          have h2 := ht.resolve_left h1
          clear ht h1
          go_wp2_with fail
          go_returns
          rw [e1.out.1, e1.out.2]
          exact ⟨_, rfl, World.ownsRow_nil _ _ _ _, hX⟩
    · have hk' : k = l.length := by omega
      have hge : (l.length : Int) ≤ k := by omega
      have hall : Hid (l.any tooJ = false) := by show _ = _; have := hno.out; rwa [hk', List.take_length] at this
      have hb := hide (net_ok hall.out)
      have hv1 := hide (hv0.out hb.out)
      have dk : decide (k < l.length) = false := by rw [decide_eq_false_iff_not]; exact hlt
      replace hk' := hide hk'
      have hlit := hide (World.ownsRow_lit (base := wr.heap.size) (e := 3) (size := 1) wr #[] 0 (Nat.le_refl _) (by decide) rfl)
      obtain ⟨w1, hw1⟩ : ∃ w1, w1 = wr := ⟨_, rfl⟩
      rw [← hw1] at hX hlit ⊢
      clear hlt hno hv0 hw1
      go_wp2_with fail
      go_loopg [5, 6] l.length (fun gh u i wr => ∃ (j : Nat), i = .int .i64 j ∧ j + gh = l.length ∧ Zw wr [] u (plc [] (inF (l.take j))) ∧ Hid ((l.take j).any nowJ = false) ∧ Ext w wr)
      case atStart => exact ⟨0, rfl, by omega, own_zw hlit.out, rfl, hX.alloc _⟩
      case round =>
        clear hlit
        obtain ⟨j, rfl, hj, hz, hno, hX2⟩ := hrel
        by_cases hlt2 : j < l.length
        · obtain ⟨x, hx⟩ : ∃ x, l[j]? = some x := ⟨_, List.getElem?_eq_getElem hlt2⟩
          obtain ⟨b, o, rfl, -, hbl, c0, c1⟩ := hat.out j x hx
          have k0 := jcell_later hX2 c0
          have hbr : b < wr.heap.size := block_lt_of_cell k0
          cases ht : nowJ x
          · have hno' : Hid ((l.take (j + 1)).any nowJ = false) := any_next hno.out hx ht
            have hinf := inF_next hx
            unfold nowJ at ht
            rw [decide_eq_false_iff_not] at ht
            have d1 : decide (x.1 < -1) = false := by rw [decide_eq_false_iff_not]; omega
            have d2 : decide (1125899906842624 < x.1) = false := by rw [decide_eq_false_iff_not]; omega
            have hlen : (plc [] (inF (l.take j))).length ≤ 4096 := by
              have h1 := plc_length (inF (l.take j)) [] Asc.nil'
              have h2 := inF_len (l.take j)
              have h3 : (l.take j).length ≤ l.length := by rw [List.length_take]; omega
              have h4 := hnd.out
              simp only [List.length_nil] at h1
              omega
            by_cases hF : x.1 < 1125899906842624
            · rw [if_neg (by omega)] at hinf
              have hnx : Hid (plc [] (inF (l.take (j + 1))) = ins (plc [] (inF (l.take j))) x.1) := by show _ = _; rw [hinf, plc_snoc]
              have hwt := hide (with_c (plc [] (inF (l.take j))) (plc_asc _ _ Asc.nil') hlen x.1 _ wr hz)
              obtain ⟨C, ccap, rfl, -, -, -⟩ := zw_form hz
              obtain ⟨xp, xn⟩ := x
              simp only at k0 d1 d2 hF
              clear c0 c1 hx ht hno hinf hz hlen
              go_wp2_with (go_at_call 266; refine hwt.out.mono ?_; rintro ee w7 ⟨v7, rfl, hz7, hx7⟩)
              go_roundg (l.length - (j + 1))
              case measure => omega
              case rel => exact ⟨j + 1, by go_num, by omega, by rw [hnx.out]; exact hz7, hno', hX2.trans hx7⟩
            · have d3 : decide (x.1 < 1125899906842624) = false := by rw [decide_eq_false_iff_not]; exact hF
              rw [if_pos (by omega)] at hinf
              have hnx : Hid (inF (l.take (j + 1)) = inF (l.take j)) := hinf
              obtain ⟨C, ccap, rfl, -, -, -⟩ := zw_form hz
              obtain ⟨xp, xn⟩ := x
              simp only at k0 d1 d2 d3
              replace hz := hide hz
              clear c0 c1 hx ht hno hinf hlen hF
              go_wp2_with fail
              go_roundg (l.length - (j + 1))
              case measure => omega
              case rel => exact ⟨j + 1, by go_num, by omega, by rw [hnx.out]; exact hz.out, hno', hX2⟩
          · have e1 : Hid (E = 13 ∧ R = []) := by
              have h1 : nmE l = 13 := by unfold nmE; rw [hall.out, any_yes hx ht]; rfl
              refine ⟨hE.out.trans h1, hR.out.trans ?_⟩
              unfold nmR; rw [h1, if_neg (by decide)]
            unfold nowJ at ht
            rw [decide_eq_true_iff] at ht
            obtain ⟨C, ccap, rfl, -, -, -⟩ := zw_form hz
            obtain ⟨xp, xn⟩ := x
            simp only at k0 ht
            clear c0 c1 hx hno hz
            by_cases h1 : xp < -1
            · clear ht
              go_wp2_with fail
              go_returns
              rw [e1.out.1, e1.out.2]
              exact ⟨_, rfl, World.ownsRow_nil _ _ _ _, hX2⟩
            · have d1 : decide (xp < -1) = false := by rw [decide_eq_false_iff_not]; exact h1
              have h2 := ht.resolve_left h1
              clear ht h1
              go_wp2_with fail
              go_returns
              rw [e1.out.1, e1.out.2]
              exact ⟨_, rfl, World.ownsRow_nil _ _ _ _, hX2⟩
        · have hj' : j = l.length := by omega
          have hge2 : (l.length : Int) ≤ j := by omega
          have hall2 : Hid (l.any nowJ = false) := by show _ = _; have := hno.out; rwa [hj', List.take_length] at this
          rw [hj', List.take_length] at hz
          obtain ⟨vf, hvfe⟩ : ∃ vf : Int → Int, vf = jv l := ⟨_, rfl⟩
          obtain ⟨ps, hpse⟩ : ∃ ps, ps = plc [] (inF l) := ⟨_, rfl⟩
          have hFt : Hid (E = full (tell vf ps 0) ∧ R = kept (tell vf ps 0)) := by
            show _ ∧ _
            have e : nmE l = full (nmL l) := by unfold nmE; rw [hall.out, hall2.out]; rfl
            rw [hE.out, hR.out, hvfe, hpse]
            refine ⟨e, ?_⟩
            unfold nmR
            rw [e]
            show (if full (nmL l) = 0 then nmL l else []) = kept (nmL l)
            unfold full kept
            cases mayJ (nmL l) <;> rfl
          have hvf : Hid (∀ p, vf p = jv l p) := fun p => by rw [hvfe]
          have hbv : Hid (∀ p, -1152921504606846976 ≤ vf p ∧ vf p ≤ 1152921504606846976) := fun p => by rw [hvfe]; have := jv_60 hb.out (by have := hnd.out; omega) p; omega
          have hbv' : Hid (∀ p ∈ ps, -1152921504606846976 ≤ vf p ∧ vf p ≤ 1152921504606846976) := fun p _ => hbv.out p
          have hpl : Hid (ps.length ≤ 4096) := by
            show _ ≤ _; rw [hpse]
            have h1 := plc_length (inF l) [] Asc.nil'
            have h2 := inF_len l
            have h3 := hnd.out
            simp only [List.length_nil] at h1; omega
          have hpI : (ps.length : Int) ≤ 4096 := by have := hpl.out; omega
          rw [← hpse] at hz
          have dj : decide (j < l.length) = false := by rw [decide_eq_false_iff_not]; exact hlt2
          have hXp := hide hX2
          have hXpB := hXp.out.size
          obtain ⟨wp, hwp⟩ : ∃ wp, wp = wr := ⟨_, rfl⟩
          rw [← hwp] at hz hXp hXpB hX2 ⊢
          obtain ⟨P, pcap, rfl, hpc1, hpc2, hpt⟩ := zw_form hz
          unfold maxLen at hpc2
          replace hpt := hide hpt
          have hzp := hide hz
          replace hj' := hide hj'
          clear hz hno hvfe hpse hwp hlt2 hX hX2
          go_wp2_with fail
          go_loopg [7, 8] ps.length (fun gh u i wr => ∃ (k : Nat), i = .int .i64 k ∧ k + gh = ps.length ∧ OwnZ wr wp.heap.size u ((ps.take k).map vf) ∧ Ext wp wr)
          case atStart => exact ⟨0, rfl, by omega, World.ownsRow_lit (base := wp.heap.size) (e := 3) (size := 1) wp #[] 0 (Nat.le_refl _) (by decide) rfl, (Ext.refl wp).alloc _⟩
          case round =>
            obtain ⟨k, rfl, hk, ho, hXr⟩ := hrel
            have hX := hXp.out.trans hXr
            have hzX := hX.size
            have hzX2 := hXr.size
            have htl : ((ps.take k).map vf).length ≤ k := by rw [List.length_map, List.length_take]; omega
            by_cases hlt : k < ps.length
            · obtain ⟨p, hp⟩ : ∃ p, ps[k]? = some p := ⟨_, List.getElem?_eq_getElem hlt⟩
              obtain ⟨pb, po, rfl, -, hpb, c0⟩ := hpt.out k p hp
              have k0 := jcell_later hXr c0
              have hbr : pb < wr.heap.size := block_lt_of_cell k0
              haveI : In pb wr := ⟨hbr⟩
              have hnx := map_next vf hp
              have hbp := hbv.out p
              obtain ⟨C, ccap, rfl⟩ := own_form ho
              replace ho := hide ho
              have hvp := hvf.out p
              generalize vf p = x at *
              generalize (ps.take k).map vf = acc at *
              replace hnx := hide hnx
              have c0h := hide c0
              clear c0 hp
              have hv1p := hide (hv1.out p)
              rw [← hvp] at hv1p
              clear hvp
              go_wp2_with (first | (go_at_call 267; (with_reducible refine seq_gw (hv1p.out _ hX) ?_); intro q1; have hz2 := GW.size q1) | (at_builtin; (refine wpl_app tZ rfl (.tmp 70) (.tmp 77) rfl rfl (own_ext ho.out ((q1.grown).alloc _)) rfl (src_z Tryz.underlying259 _ _ rfl x _) (by unfold maxLen; omega) (by omega) (by simp only [World.size_alloc]; omega) ?_; intro v8 w8 ho8 hg8 _)))
              go_roundg (ps.length - (k + 1))
              case measure => omega
              case rel => exact ⟨k + 1, by go_num, by omega, by rw [hnx.out]; exact own_appZ ho8, ext_grown ((hXr.trans q1.grown).alloc _) hg8 (fun q hq => (ho.out.lt q hq).1)⟩
            · have hk' : k = ps.length := by omega
              have hge : (ps.length : Int) ≤ k := by omega
              rw [hk', List.take_length] at ho
              have htd := hide (told_c ps vf hbv'.out hpl.out _ _ wr (Sl.ext hzp.out hXr) (own_zw ho))
              rw [← hFt.out.1, ← hFt.out.2] at htd
              obtain ⟨C, ccap, rfl⟩ := own_form ho
              rw [List.length_map] at htd ⊢
              replace hk' := hide hk'
              clear ho htl
              go_wp2_with (go_at_call 268; refine htd.out.mono ?_; rintro ee w9 ⟨v9, rfl, ho9, hx9⟩)
              go_returns
              exact ⟨_, rfl, own_base ho9 hzX, hX.trans hx9⟩
end Go.Proofs.YtiknkcadbaeknaaGreat
