/-
  A helper of ours: no claim of its own. Layer 18 (eval): the machine with a stack of results, by the code.
-/
import Derived.Test.YtljkneajdndgjabGreatEvaF
import Derived.Test.YtljkneajdndgjabGreatReg3
set_option linter.unusedVariables false
set_option linter.unusedSimpArgs false
namespace Go.Proofs.YtljkneajdndgjabGreat
open Go.RowKit
attribute [-go_sem] sliced
attribute [local go_sem] sliced_eq
attribute [local go_sem] GW.cell GW.frozen In.eq_true In.le_true In.ne In.ne' In.ne_add In.ne_add' In.lt_add Upto.le_true Upto.le_add Upto.lt_add
theorem tRes : ElemT Tryz.prog 148 117 .nilIface 1 16 := ElemT.mk' Tryz.underlying148 (by kernel_rfl) rfl (by omega)
def runX (r : List Vl) (l : List Vl) : Except Int Vl := match stR (evF r) [] l with
  | .error e => .error e
  | .ok st => .ok (st.headD (1, 0, ⟨#[]⟩))
theorem runX_tree {r : List Vl} {t : Tr} (g : t.good) : runX r t.flat = evT (evF r) t := by
  unfold runX
  rw [stR_all _ t g]
  cases evT (evF r) t <;> rfl
theorem buildR1 (u : Vl) (w : World) : (Instr.buildSlice 148 1 #[(0, rv u)]).run Tryz.prog w = .ok (.slice (some ⟨w.heap.size, 0, none⟩) 1 1) (w.alloc (.cells #[rv u] 117)) := by
  unfold rv; split <;> simp [go_sem, rN, rT]
def oneR (u : Vl) : Fact := .st (fun v w => Ws w [] v [u]) (fun _ _ _ h k => Sl.ext h k)
theorem oneR_new (u : Vl) (w : World) : Ws (w.alloc (.cells #[rv u] 117)) [] (.slice (some ⟨w.heap.size, 0, none⟩) 1 1) [u] :=
  Sl.own (World.ownsRow_lit (base := w.heap.size) (e := 117) (size := 1) w #[rv u] 1 (Nat.le_refl _) (by decide) rfl) (by simp)
theorem rv_ones (u : Vl) : ∀ v ∈ [u].map rv, v.oneCell' = true := by
  intro v hv
  have : v = rv u := by simpa using hv
  rw [this]; exact rv_one u
set_option maxHeartbeats 8000000 in
set_option maxRecDepth 100000 in
theorem run_c (r : List Vl) (hr : ∀ v ∈ r, fine v) (l : List Vl) (h64 : l.length ≤ 64) (hz : fE 0 l = 0) (hi : ∀ o ∈ l, inW o) (v rvv : Value) (w : World) (h : Rw w [] v l) (hrr : Rw w [] rvv r) :
    Calls Tryz.prog 91 #[v, rvv] w fun e w' => e = endX (runX r l) ∧ Ext w w' := by
  obtain ⟨F, hF⟩ : ∃ F, F = runX r l := ⟨_, rfl⟩
  rw [← hF]
  have happ := hide (fun c n x ho xs hc hf xv w' (hX : Ext w w') hx => apply_c r hr c n x ho xs hc hf xv rvv w' hx (Sl.ext hrr hX))
  obtain ⟨A, cap, rfl, hl, hm, hat⟩ := rw_form h
  obtain ⟨B, rcap, rfl, -, -, -⟩ := rw_form hrr
  clear h hrr hm
  replace hz := hide hz
  replace hat := hide hat
  replace hi := hide hi
  replace hr := hide hr
  have hF' : Hid (F = match stR (evF r) [] l with
    | .error e => .error e
    | .ok st => .ok (st.headD (1, 0, ⟨#[]⟩))) := hF
  clear hF
  go_enter Tryz.func91, Tryz.ntmps91
  go_wp2_with fail
  go_loopg [5, 11] l.length (fun gh kv i wr => ∃ (k : Nat) (st : List Vl), i = .int .i64 k ∧ k + gh = l.length ∧ st.length ≤ k ∧ wr.ownsRow w.heap.size 117 1 kv st.length (st.map rv) ∧ Hid (∀ v ∈ st, fine v) ∧ Hid (fE (st.length : Int) (l.drop k) = 0) ∧ Hid (F = match stR (evF r) st (l.drop k) with
    | .error e => .error e
    | .ok st => .ok (st.headD (1, 0, ⟨#[]⟩))) ∧ Ext w wr)
  case atStart => exact ⟨0, [], rfl, by omega, Nat.le_refl _, World.ownsRow_nil _ _ _ _, (by intro v hv; simp at hv), by simpa using hz, by simpa using hF', Ext.refl w⟩
  case round =>
    obtain ⟨k, st, rfl, hk, hst, ho, hfi, hfe, hR, hX⟩ := hrel
    clear hz hF'
    by_cases hlt : k < l.length
    · obtain ⟨x, hx⟩ : ∃ x, l[k]? = some x := ⟨_, List.getElem?_eq_getElem hlt⟩
      obtain ⟨b, o, rfl, -, hb, c0, c1, c2⟩ := hat.out k x hx
      have k0 := cell_later hX c0
      have k1 := cell_later hX c1
      have k2 := cell_later hX c2
      have hbr : b < wr.heap.size := block_lt_of_cell k0
      have hiw := hi.out x (List.mem_of_getElem? hx)
      have hfe2 := hfe.out
      have hR2 := hR.out
      rw [drop_cons hx] at hfe2 hR2
      obtain ⟨st1, st2, rfl, hok, htk, hnext, hrun⟩ := st_step (evF r) hfe2
      rw [hrun] at hR2
      replace hR2 := hide hR2
      replace hnext := hide hnext
      clear hrun hfe2 hfe hR
      have hf1 : ∀ v ∈ st1, fine v := fun v hv => hfi.out v (by simp [hv])
      have hf2 : ∀ v ∈ st2, fine v := fun v hv => hfi.out v (by simp [hv])
      have hfn := hide (fun u hu => @evF_fine r x st2 u hr.out hok hiw hf2 hu)
      replace hf1 := hide hf1
      obtain ⟨xk, xn, xs⟩ := x
      have htc := hide (fun w => takes_c xk w)
      simp only at htk
      rw [htk] at htc
      replace htk := hide htk
      obtain ⟨P, pc, rfl⟩ := own_form ho
      have hcp := own_cap ho
      obtain ⟨a, ha⟩ : ∃ a, a = st1.length := ⟨_, rfl⟩
      obtain ⟨d, hd⟩ : ∃ d, d = st2.length := ⟨_, rfl⟩
      have hlen : (st1 ++ st2).length = a + d := by rw [List.length_append, ha, hd]
      rw [hlen] at ho hcp hst ⊢
      have hcut1 := own_cut ho a (by omega)
      have hcut2 := own_from ho a (by omega) hcp
      rw [Nat.mul_one, List.map_append, ha, List.take_left' (by simp)] at hcut1
      rw [Nat.mul_one, Nat.add_sub_cancel_left, List.map_append, ha, List.drop_left' (by simp)] at hcut2
      rw [← ha] at hcut1 hcut2
      have hac := hide (fun w' (hX' : Ext wr w') => happ.out xk xn xs hok st2 htk.out hf2 (.slice (cutA P a pc 1) d (pc - a)) w' (hX.trans hX') (by show Sl _ _ _ _ st2.length _; rw [← hd]; exact Sl.ext hcut2 hX'))
      rw [← hd] at htc
      replace hcut1 := hide hcut1
      have ha64 : a ≤ 64 := by omega
      have hapc : (a : Int) ≤ (a : Int) + d := by omega
      have hapc2 : (a : Int) ≤ pc := by omega
      have hOb := hide (Ob.new wr 56 [.int .i64 xk, .int .i64 xn, .string xs])
      replace ha := hide ha
      replace hR2 := hR2.out
      clear hx hat c0 c1 c2 hlen htk hok happ ho hcut2 hd hf2 hfi hiw
      generalize evF r (xk, xn, xs) st2 = K at *
      cases K with
      | error z =>
        have hFo : Hid (F = .error z) := hR2
        clear hR2 hfn
        replace hac := hide (show ∀ w', Ext wr w' → Calls Tryz.prog 132 _ w' fun e w'' => e = pnc z ∧ Ext w' w'' from hac.out)
        go_wp2_with (first | (go_at_call 67; (with_reducible refine seq_gw (htc.out _) ?_); intro g))
        have hXg := hide (((Ext.refl wr).alloc (.cells #[.int .i64 xk, .int .i64 xn, .string xs] 56)).trans g.grown)
        refine wp_region_list_tail 10 [.is (.slice P (a + d) pc), .is (.int .i64 (a : Int)), .is (.slice (cutA P 0 pc 1) a pc), .is (val xk xn xs), .is (.slice P (a + d) pc), .is (.int .i64 (a : Int)), .is (.slice (cutA P a pc 1) d (pc - a)), .is (.slice B r.length rcap), never, never] (by kernel_rfl) (by kernel_rfl) (by kernel_rfl) (by kernel_rfl) (by kernel_rfl) (by kernel_rfl) (by kernel_rfl) ?_ ?_
        · refine ⟨?_, ?_, ?_, ?_, ?_, ?_, ?_, ?_, ?_, ?_, trivial⟩
          · intro bb w' h hE
            have f5 : bb.tmps.getD 5 undef = .slice P (a + d) pc := hE 5 (of_decide_eq_true (by kernel_rfl))
            exact good_move (wanted_none rfl) rfl f5
          · intro bb w' h hE
            have f8 : bb.tmps.getD 8 undef = .int .i64 (a : Int) := hE 8 (of_decide_eq_true (by kernel_rfl))
            exact good_move (wanted_none rfl) rfl f8
          · intro bb w' h hE
            have f21 : bb.tmps.getD 21 undef = .slice P (a + d) pc := h.dep 0 _ 21 (by kernel_rfl) rfl rfl
            have f22 : bb.tmps.getD 22 undef = .int .i64 (a : Int) := h.dep 1 _ 22 (by kernel_rfl) rfl rfl
            exact good_slice (wanted_none rfl) rfl f21 rfl (show _ = some (.int .i64 (a : Int)) from congrArg some f22) rfl (by simp [go_sem, hapc2]) rfl
          · intro bb w' h hE
            have f7 : bb.tmps.getD 7 undef = .pointer (some ⟨wr.heap.size, 0, none⟩) := hE 7 (of_decide_eq_true (by kernel_rfl))
            have q0 := (hOb.out.ext (g.grown.trans h.ext)).cell 0 rfl
            have q1 := (hOb.out.ext (g.grown.trans h.ext)).cell 1 rfl
            have q2 := (hOb.out.ext (g.grown.trans h.ext)).cell 2 rfl
            exact good_load (wanted_none rfl) rfl f7 (by simp [go_sem, q0, q1, q2]) rfl
          · intro bb w' h hE
            have f5 : bb.tmps.getD 5 undef = .slice P (a + d) pc := hE 5 (of_decide_eq_true (by kernel_rfl))
            exact good_move (wanted_none rfl) rfl f5
          · intro bb w' h hE
            have f8 : bb.tmps.getD 8 undef = .int .i64 (a : Int) := hE 8 (of_decide_eq_true (by kernel_rfl))
            exact good_move (wanted_none rfl) rfl f8
          · intro bb w' h hE
            have f25 : bb.tmps.getD 25 undef = .slice P (a + d) pc := h.dep 4 _ 25 (by kernel_rfl) rfl rfl
            have f26 : bb.tmps.getD 26 undef = .int .i64 (a : Int) := h.dep 5 _ 26 (by kernel_rfl) rfl rfl
            exact good_slice (wanted_none rfl) rfl f25 (show _ = some (.int .i64 (a : Int)) from congrArg some f26) rfl rfl (by simp [go_sem, hapc, hapc2]) rfl
          · intro bb w' h hE
            have f1 : bb.tmps.getD 1 undef = .slice B r.length rcap := hE 1 (of_decide_eq_true (by kernel_rfl))
            exact good_move (wanted_none rfl) rfl f1
          · intro bb w' h hE
            have f24 : bb.tmps.getD 24 undef = val xk xn xs := h.dep 3 _ 24 (by kernel_rfl) rfl rfl
            have f27 : bb.tmps.getD 27 undef = .slice (cutA P a pc 1) d (pc - a) := h.dep 6 _ 27 (by kernel_rfl) rfl rfl
            have f28 : bb.tmps.getD 28 undef = .slice B r.length rcap := h.dep 7 _ 28 (by kernel_rfl) rfl rfl
            refine good_panic (wanted_none rfl) rfl (enters Tryz.func132 (by kernel_rfl) rfl) ?_ ?_ (ch := [{ v := .iface 27 (.int .i64 z), recovered := false }])
            · rw [show (#[.tmp 24, .tmp 27, .tmp 28] : Array Operand).map bb.eval = #[val xk xn xs, .slice (cutA P a pc 1) d (pc - a), .slice B r.length rcap] by simp [Act.eval, f24, f27, f28]]
              exact hac.out w' (hXg.out.trans h.ext)
            · intro w'' hx
              refine ⟨h.defers, ?_, hX.trans ((hXg.out.trans h.ext).trans hx)⟩
              rw [hFo.out]; rfl
          · intro bb w' h hE
            have f : False := h.dep 8 _ 29 (by kernel_rfl) rfl rfl
            exact f.elim
        · intro bb w' _ _ _ _ hf
          have f : False := hf 8 _ 29 (by omega) rfl rfl
          exact f.elim
      | ok u =>
        replace hR2 := hide hR2
        have hfu := hfn.out u rfl
        replace hac := hide (show ∀ w', Ext wr w' → Calls Tryz.prog 132 _ w' fun e w'' => e = .returned (rv u) ∧ Ext w' w'' from hac.out)
        clear hfn
        go_wp2_with (first | (go_at_call 67; (with_reducible refine seq_gw (htc.out _) ?_); intro g))
        have hXg := hide (((Ext.refl wr).alloc (.cells #[.int .i64 xk, .int .i64 xn, .string xs] 56)).trans g.grown)
        refine wp_region_list_tail 10 [.is (.slice P (a + d) pc), .is (.int .i64 (a : Int)), .is (.slice (cutA P 0 pc 1) a pc), .is (val xk xn xs), .is (.slice P (a + d) pc), .is (.int .i64 (a : Int)), .is (.slice (cutA P a pc 1) d (pc - a)), .is (.slice B r.length rcap), .is (rv u), oneR u] (by kernel_rfl) (by kernel_rfl) (by kernel_rfl) (by kernel_rfl) (by kernel_rfl) (by kernel_rfl) (by kernel_rfl) ?_ ?_
        · refine ⟨?_, ?_, ?_, ?_, ?_, ?_, ?_, ?_, ?_, ?_, trivial⟩
          · intro bb w' h hE
            have f5 : bb.tmps.getD 5 undef = .slice P (a + d) pc := hE 5 (of_decide_eq_true (by kernel_rfl))
            exact good_move (wanted_none rfl) rfl f5
          · intro bb w' h hE
            have f8 : bb.tmps.getD 8 undef = .int .i64 (a : Int) := hE 8 (of_decide_eq_true (by kernel_rfl))
            exact good_move (wanted_none rfl) rfl f8
          · intro bb w' h hE
            have f21 : bb.tmps.getD 21 undef = .slice P (a + d) pc := h.dep 0 _ 21 (by kernel_rfl) rfl rfl
            have f22 : bb.tmps.getD 22 undef = .int .i64 (a : Int) := h.dep 1 _ 22 (by kernel_rfl) rfl rfl
            exact good_slice (wanted_none rfl) rfl f21 rfl (show _ = some (.int .i64 (a : Int)) from congrArg some f22) rfl (by simp [go_sem, hapc2]) rfl
          · intro bb w' h hE
            have f7 : bb.tmps.getD 7 undef = .pointer (some ⟨wr.heap.size, 0, none⟩) := hE 7 (of_decide_eq_true (by kernel_rfl))
            have q0 := (hOb.out.ext (g.grown.trans h.ext)).cell 0 rfl
            have q1 := (hOb.out.ext (g.grown.trans h.ext)).cell 1 rfl
            have q2 := (hOb.out.ext (g.grown.trans h.ext)).cell 2 rfl
            exact good_load (wanted_none rfl) rfl f7 (by simp [go_sem, q0, q1, q2]) rfl
          · intro bb w' h hE
            have f5 : bb.tmps.getD 5 undef = .slice P (a + d) pc := hE 5 (of_decide_eq_true (by kernel_rfl))
            exact good_move (wanted_none rfl) rfl f5
          · intro bb w' h hE
            have f8 : bb.tmps.getD 8 undef = .int .i64 (a : Int) := hE 8 (of_decide_eq_true (by kernel_rfl))
            exact good_move (wanted_none rfl) rfl f8
          · intro bb w' h hE
            have f25 : bb.tmps.getD 25 undef = .slice P (a + d) pc := h.dep 4 _ 25 (by kernel_rfl) rfl rfl
            have f26 : bb.tmps.getD 26 undef = .int .i64 (a : Int) := h.dep 5 _ 26 (by kernel_rfl) rfl rfl
            exact good_slice (wanted_none rfl) rfl f25 (show _ = some (.int .i64 (a : Int)) from congrArg some f26) rfl rfl (by simp [go_sem, hapc, hapc2]) rfl
          · intro bb w' h hE
            have f1 : bb.tmps.getD 1 undef = .slice B r.length rcap := hE 1 (of_decide_eq_true (by kernel_rfl))
            exact good_move (wanted_none rfl) rfl f1
          · intro bb w' h hE
            have f24 : bb.tmps.getD 24 undef = val xk xn xs := h.dep 3 _ 24 (by kernel_rfl) rfl rfl
            have f27 : bb.tmps.getD 27 undef = .slice (cutA P a pc 1) d (pc - a) := h.dep 6 _ 27 (by kernel_rfl) rfl rfl
            have f28 : bb.tmps.getD 28 undef = .slice B r.length rcap := h.dep 7 _ 28 (by kernel_rfl) rfl rfl
            refine good_call (wanted_none rfl) rfl (enters Tryz.func132 (by kernel_rfl) rfl) ?_
            rw [show (#[.tmp 24, .tmp 27, .tmp 28] : Array Operand).map bb.eval = #[val xk xn xs, .slice (cutA P a pc 1) d (pc - a), .slice B r.length rcap] by simp [Act.eval, f24, f27, f28]]
            refine (hac.out w' (hXg.out.trans h.ext)).mono ?_
            rintro e w'' ⟨he, hx⟩
            exact ⟨_, he, rfl, hx⟩
          · intro bb w' h hE
            have f29 : bb.tmps.getD 29 undef = rv u := h.dep 8 _ 29 (by kernel_rfl) rfl rfl
            have g29 : bb.tmps[29]?.getD undef = rv u := by rw [← Array.getD_eq_getD_getElem?]; exact f29
            have := buildR1 u w'
            refine good_grow (w' := w'.alloc (.cells #[rv u] 117)) (v := .slice (some ⟨w'.heap.size, 0, none⟩) 1 1) (wanted_none rfl) ?_ (oneR_new u w') ((Ext.refl _).alloc _)
            simp [execOp, Act.eval, g29, this, Sem.run_bind, Sem.run_pure, Result.andThen_ok]
        · intro bb w2 hX2 hd2 hz2 he' hf
          have e21 : bb.tmps.getD 21 undef = .slice P (a + d) pc := hf 0 _ 21 (by omega) rfl rfl
          have e22 : bb.tmps.getD 22 undef = .int .i64 (a : Int) := hf 1 _ 22 (by omega) rfl rfl
          have e23 : bb.tmps.getD 23 undef = .slice (cutA P 0 pc 1) a pc := hf 2 _ 23 (by omega) rfl rfl
          have e24 : bb.tmps.getD 24 undef = val xk xn xs := hf 3 _ 24 (by omega) rfl rfl
          have e25 : bb.tmps.getD 25 undef = .slice P (a + d) pc := hf 4 _ 25 (by omega) rfl rfl
          have e26 : bb.tmps.getD 26 undef = .int .i64 (a : Int) := hf 5 _ 26 (by omega) rfl rfl
          have e27 : bb.tmps.getD 27 undef = .slice (cutA P a pc 1) d (pc - a) := hf 6 _ 27 (by omega) rfl rfl
          have e28 : bb.tmps.getD 28 undef = .slice B r.length rcap := hf 7 _ 28 (by omega) rfl rfl
          have e29 : bb.tmps.getD 29 undef = rv u := hf 8 _ 29 (by omega) rfl rfl
          have f9 : Ws w2 [] (bb.tmps.getD 30 undef) [u] := hf 9 _ 30 (by omega) rfl rfl
          have e := frame_puts hd2 hz2 he'
          obtain ⟨X, hXx⟩ : ∃ X : Nat → Value, ∀ d, bb.tmps.getD d undef = X d := ⟨_, fun _ => rfl⟩
          rw [hXx] at e21 e22 e23 e24 e25 e26 e27 e28 e29 f9
          obtain ⟨A9, c9, e99, -, -, -⟩ := ws_form f9
          rw [show dstsOf _ = [21, 22, 23, 24, 25, 26, 27, 28, 29, 30] from rfl] at e
          simp only [List.foldl_cons, List.foldl_nil, hXx, Act.put, List.setIfInBounds_toArray, List.set_cons_succ, List.set_cons_zero] at e
          rw [e21, e22, e23, e24, e25, e26, e27, e28, e29, e99] at e
          rw [e99] at f9
          replace f9 := hide f9
          clear hf he' hz2 hd2 hXx e21 e22 e23 e24 e25 e26 e27 e28 e29 e99
          subst e
          have hzw := hX2.size
          have hXY := hide (hXg.out.trans hX2)
          have hzX := hX.size
          have hzY := hXY.out.size
          simp only [List.drop_succ_cons, List.drop_zero]
          go_wp2_with (at_builtin; (refine wpl_app tRes rfl (.tmp 23) (.tmp 30) rfl rfl (own_ext hcut1.out hXY.out) rfl (src_sl Tryz.underlying148 f9.out (rv_ones u) (by omega)) (by unfold maxLen; simp only [List.length_singleton]; omega) (by simp only [List.length_singleton]; omega) (by omega) ?_; intro v8 w8 ho8 hg8 _; have hX8 := hide (ext_grown (hX.trans hXY.out) hg8 (fun q hq => (hcut1.out.lt q hq).1))))
          go_roundg (l.length - (k + 1))
          case measure => omega
          case rel =>
            have ho9 : w8.ownsRow w.heap.size 117 1 v8 (st1 ++ [u]).length ((st1 ++ [u]).map rv) := by
              rw [List.length_append, List.length_singleton, List.map_append, ← ha.out]; exact ho8
            exact ⟨k + 1, st1 ++ [u], by go_num, by omega, by rw [List.length_append, List.length_singleton, ← ha.out]; omega, ho9, hide (fun v hv => by
              rcases List.mem_append.1 hv with hv | hv
              · exact hf1.out v hv
              · have : v = u := by simpa using hv
                rw [this]; exact hfu), hnext.out u, hR2, hX8.out⟩
    · have hk' : k = l.length := by omega
      have hge : (l.length : Int) ≤ k := by omega
      have hfe2 := hfe.out
      have hR2 := hR.out
      rw [hk', List.drop_length] at hfe2 hR2
      have h1 : st.length = 1 := by
        unfold fE at hfe2
        by_cases h1 : (st.length : Int) = 1
        · omega
        · rw [if_neg h1] at hfe2; omega
      obtain ⟨k1, rfl⟩ := List.length_eq_one_iff.1 h1
      have hFo : Hid (F = .ok k1) := hR2
      obtain ⟨P, pc, rfl⟩ := own_form ho
      obtain ⟨b, o, hAd, hb, c0⟩ : ∃ b o, P = some ⟨b, o, none⟩ ∧ b < wr.heap.size ∧ wr.cell? ⟨b, o, none⟩ = some (rv k1) := by
        have hkw : Ws wr [] (.slice P 1 pc) [k1] := Sl.own (S := []) ho (by simp)
        obtain ⟨A', c', e, -, -, hh⟩ := ws_form hkw
        obtain ⟨b, o, e2, -, h3, h4⟩ := hh 0 k1 rfl
        exact ⟨b, o, (Value.slice.inj e).1.trans e2, h3, h4⟩
      subst hAd
      replace hk' := hide hk'
      obtain ⟨z, hz⟩ : ∃ z, z = rv k1 := ⟨_, rfl⟩
      rw [← hz] at c0
      replace hz := hide hz
      clear hfe hR hfe2 hR2 h1 ho
      go_wp2_with fail
      go_returns
      exact ⟨by rw [hFo.out]; show _ = Ending.returned (rv k1); rw [← hz.out]; rfl, hX⟩
end Go.Proofs.YtljkneajdndgjabGreat
