/-
  A helper of ours: no claim of its own. Layer 14 (past): an event is known with a lifetime (set).
-/
import Derived.Test.YtajelkkiijdegaaGreatPasF
set_option linter.unusedVariables false
set_option linter.unusedSimpArgs false
namespace Go.Proofs.YtajelkkiijdegaaGreat
open Go.RowKit
attribute [local go_sem] GW.cell GW.frozen In.eq_true In.le_true In.ne In.ne' In.ne_add In.ne_add' In.lt_add Upto.le_true Upto.le_add Upto.lt_add
theorem Mv.more {α : Type} {P : Program} {kt : TypeId} {f : α → Lit × Value} {b n n' : Nat} {M : List α} {w : World} (h : Mv w P kt f b n M) (hn : n ≤ n') : Mv w P kt f b n' M := by
  obtain ⟨es, h, p⟩ := h
  exact ⟨es, h.mono hn, p⟩
section
variable {base p : Nat} {sv : Value} {c ser : Int} {mb n : Nat} {u : Value} {L : List Pb} {sc : List Cl}
theorem pst_mb {w w' : World} {L' : List Pb} (hP : Pst w base p sv c ser mb u L) (hM : Mv w Tryz.prog 3 kentP mb n L') (hF : Fr [mb] w w') : Pst w' base p sv c ser mb u L :=
  ⟨hP.ob.fr hF (by simp; exact mv_ob hM hP.ob), powns_fr hP.own hF (fun r hr => by
    simp
    rcases hP.own.2 with ⟨h', h0⟩ | ⟨g, cap, cur, h', hb, hg, -⟩
    · rw [h'] at hr; simp [Value.ownBlock] at hr
    · rw [h'] at hr
      have h4 : Ob w g 103 cur.toList := by unfold Ob; rw [hg, Array.toArray_toList]
      have e1 : g = r := by simpa [Value.ownBlock] using hr
      rw [← e1]
      exact mv_ob hM h4), fun y hy => Ob.fr (hP.evs y hy) hF (by simp; exact mv_ob hM (hP.evs y hy))⟩
theorem pst_ser {w : World} (hP : Pst w base p sv c ser mb u L) {s2 : Int} : Pst (w.setCell ⟨p, 2, none⟩ (.int .i64 s2)) base p sv c s2 mb u L := by
  have hF : Fr [p] w (w.setCell ⟨p, 2, none⟩ (.int .i64 s2)) := (Fr.refl _ w).setCell _ _ (.inl (by simp))
  exact ⟨hP.ob.set 2 _, powns_fr hP.own hF (fun r hr => by simp; intro e; subst e; exact p_not_own hP hr), fun y hy => evb_fr (hP.evs y hy) hP hF (by simp)⟩
theorem pz_end {w w' : World} {ser9 : Int} (hP : Pst w base p sv c ser mb u L) (hP9 : Pst w' base p sv c ser9 mb u L) (hF : Fr [p] w w') (hM : Mv w Tryz.prog 3 kentP mb n L) (hR : ∀ y ∈ L, RwO w y.2.2 y.1.2.1) (hC : w.ownsRow 0 87 2 sv sc.length (cl sc)) : Pz w' base p sc c ser9 mb n L := by
  have hk := kq_fr hP hP9 hF (by simp) ou_same
  exact ⟨⟨sv, u, hP9, own_kq hC hk (by decide) (by decide)⟩, pmv_fr hM hF (by simp; exact fun e => mv_ob hM hP.ob e.symm), fun y hy => own_kq (hR y hy) hk (by decide) (by decide)⟩
set_option maxHeartbeats 16000000 in
set_option maxRecDepth 100000 in
theorem pset_c (id : Int) (s2 : Nat) (r : List Vl) (o1 o2 f t : Int) (rv : Value) (w : World) (h : Pz w base p sc c ser mb n L) (hs : Srt L) (hids : Ids L) (hi : inI id) (hL : L.length ≤ 8000) (hrv : RwO w rv r) (hrz : r.length * 32 ≤ 140737488351232) (hbw : base ≤ w.heap.size) (hbm : base ≤ mb) (hbp : base ≤ p) (hnM : n < maxLen) :
    Calls Tryz.prog 45 #[.pointer (some ⟨p, 0, none⟩), .int .i64 id, .agg #[.int .i64 s2, rv, .int .i64 o1, .int .i64 o2, .int .i64 f, .int .i64 t]] w fun e w' => e = .returned (.tuple #[]) ∧ ∃ b v, Pz w' base p sc c (max ser s2) mb (n + 1) (if c < t then insP (delP L id) (((id, s2), r, (f, t)), b, v) else delP L id) ∧ Kq p mb w w' ∧ Below base w w' := by
  obtain ⟨⟨sv, u, hP, hC⟩, hM, hR⟩ := h
  replace hC := hide hC
  replace hR := hide hR
  obtain ⟨RA, rcap, hrve⟩ := own_form hrv
  subst hrve
  obtain ⟨bc, hbc⟩ : ∃ bc, bc = w.heap.size := ⟨_, rfl⟩
  obtain ⟨W1, hW1⟩ : ∃ W1, W1 = w.alloc (.cells #[.int .i64 s2, .slice RA r.length rcap, .int .i64 o1, .int .i64 o2, .int .i64 f, .int .i64 t] 39) := ⟨_, rfl⟩
  have hX1 : Ext w W1 := by rw [hW1]; exact (Ext.refl w).alloc _
  have hO1 : Ob W1 bc 39 [.int .i64 s2, .slice RA r.length rcap, .int .i64 o1, .int .i64 o2, .int .i64 f, .int .i64 t] := by rw [hbc, hW1]; exact Ob.new w _ [_, _, _, _, _, _]
  have hub := hide (fun b (hb : b ∈ wrt p u) => (show base ≤ b by
    rcases List.mem_cons.1 hb with rfl | hb
    · exact hbp
    · exact (hP.own.lt b (by simpa using hb)).1))
  have hl := plook_ok hM hi
  have c3 := hP.ob.cell 3 rfl
  haveI : In p w := ⟨hP.ob.lt⟩
  have hW1h := hide hW1
  have hbch := hide hbc
  cases ho : atP L id with
  | none =>
    rw [ho] at hl
    replace hl : ∀ w' [Gn w w'], (Instr.lookup 88 (.map (some mb)) (.int .i64 id) true).run Tryz.prog w' = .ok (.tuple #[.pointer none, .bool false]) w' := hl
    have hno := atP_none ho
    have hdl : delP L id = L := List.filter_eq_self.2 fun y hy => by have := hno y hy; simp [kentP, same_key, this]
    rw [hdl]
    obtain ⟨L1, hL1e⟩ : ∃ L1, L1 = L := ⟨_, rfl⟩
    obtain ⟨W3, hW3⟩ : ∃ W3, W3 = W1 := ⟨_, rfl⟩
    obtain ⟨u3, hu3⟩ : ∃ u3, u3 = u := ⟨_, rfl⟩
    have hP3 : Hid (Pst W3 base p sv c ser mb u3 L1) := by show Pst _ _ _ _ _ _ _ _ _; rw [hW3, hu3, hL1e]; exact hP.ext hX1
    have hM3 : Hid (Mv W3 Tryz.prog 3 kentP mb n L1) := by show Mv _ _ _ _ _ _ _; rw [hW3, hL1e]; exact Mv.ext hM hX1
    have hO3 : Hid (Ob W3 bc 39 [.int .i64 s2, .slice RA r.length rcap, .int .i64 o1, .int .i64 o2, .int .i64 f, .int .i64 t]) := by show Ob _ _ _ _; rw [hW3]; exact hO1
    have hK3 : Hid (Kq p mb w W3) := by show Kq _ _ _ _; rw [hW3]; exact kq_ext hP.ob.lt hX1
    have hB3 : Hid (Below base w W3) := by show Below _ _ _; rw [hW3]; exact Below.mono hX1 hbw
    have hub3 := hide (show ∀ b, b ∈ wrt p u3 → base ≤ b by rw [hu3]; exact hub.out)
    have hs1 : Srt L1 := by rw [hL1e]; exact hs
    have hL1 : L1.length ≤ 8192 := by rw [hL1e]; omega
    have hdl1 := hide (show delP L1 id = L1 by rw [hL1e]; exact hdl)
    have hL1s := hide (show ∀ y ∈ L1, y ∈ L by rw [hL1e]; exact fun y hy => hy)
    have hrw3 := hide (fun w' (hX : Ext W3 w') => (RwO.ext hrv (hX1.trans (by rw [← hW3]; exact hX))).rw)
    have hbw3 : base ≤ W3.heap.size := by have := hB3.out.size; omega
    rw [← hL1e]
    have hW3h := hide hW3
    clear hP hM hrv hO1 hX1 hW1 hbc hno hdl hL1e hW3 hu3 ho hs hids hub
    go_enter Tryz.func45, Tryz.ntmps45
    go_wp2_with fail
    rw [← hbch.out, ← hW1h.out, ← hW3h.out]
    have q0 := hO3.out.cell 0 rfl
    have q5 := hO3.out.cell 5 rfl
    have pc1 := hP3.out.ob.cell 1 rfl
    haveI : In p W3 := ⟨hP3.out.ob.lt⟩
    haveI : In bc W3 := ⟨hO3.out.lt⟩
    go_wp2_with fail
    refine wp_region_gw (by kernel_rfl) (by kernel_rfl) ?_
    repeat (go_big_quiet_step (fail))
    refine wpQuiet_nil ?_
    intro g5
    clear q0 q5 pc1
    by_cases hct : c < t
    · have hd : decide (c < t) = true := decide_eq_true hct
      have q0 := hide ((hO3.out.ext g5.grown).cell 0 rfl)
      have q1 := hide ((hO3.out.ext g5.grown).cell 1 rfl)
      have q4 := hide ((hO3.out.ext g5.grown).cell 4 rfl)
      have q5 := hide ((hO3.out.ext g5.grown).cell 5 rfl)
      have hrw := hide (fun w' (hX : Ext g5.val w') => hrw3.out w' (g5.grown.trans hX))
      go_wp2_with fail
      refine wp_region_list_tail 8 [(.is ((.int .i64 id))), (.is ((.pointer (some ⟨bc, 0, none⟩)))), (.is ((.int .i64 s2))), (.is ((.pointer (some ⟨bc, 1, none⟩)))), (.is ((.slice RA r.length rcap))), (.st (fun v w => RwO w v r) (fun _ _ _ h k => own_ext h k)), (.is ((.pointer (some ⟨bc, 4, none⟩)))), (.is ((.agg #[.int .i64 f, .int .i64 t])))] (by kernel_rfl) (by kernel_rfl) (by kernel_rfl) (by kernel_rfl) (by kernel_rfl) (by kernel_rfl) (by kernel_rfl) ?_ ?_
      · refine ⟨?_, ?_, ?_, ?_, ?_, ?_, ?_, ?_, trivial⟩
        · intro b w' h hE
          have f1 : b.tmps.getD 1 undef = (.int .i64 id) := hE 1 (of_decide_eq_true (by kernel_rfl))
          exact good_move (wanted_none rfl) rfl f1
        · intro b w' h hE
          have f5 : b.tmps.getD 5 undef = (.pointer (some ⟨bc, 0, none⟩)) := hE 5 (of_decide_eq_true (by kernel_rfl))
          exact good_field (wanted_none rfl) rfl f5 (by simp [go_sem]) rfl
        · intro b w' h hE
          have f38 : b.tmps.getD 38 undef = (.pointer (some ⟨bc, 0, none⟩)) := h.dep 1 _ 38 (by kernel_rfl) rfl rfl
          have c0 := cell_later h.ext q0.out
          exact good_load (wanted_none rfl) rfl f38 (by simp [go_sem, c0]) rfl
        · intro b w' h hE
          have f5 : b.tmps.getD 5 undef = (.pointer (some ⟨bc, 0, none⟩)) := hE 5 (of_decide_eq_true (by kernel_rfl))
          exact good_field (wanted_none rfl) rfl f5 (by simp [go_sem]) rfl
        · intro b w' h hE
          have f40 : b.tmps.getD 40 undef = (.pointer (some ⟨bc, 1, none⟩)) := h.dep 3 _ 40 (by kernel_rfl) rfl rfl
          have c0 := cell_later h.ext q1.out
          exact good_load (wanted_none rfl) rfl f40 (by simp [go_sem, c0]) rfl
        · intro b w' h hE
          have f41 : b.tmps.getD 41 undef = (.slice RA r.length rcap) := h.dep 4 _ 41 (by kernel_rfl) rfl rfl
          have g41 : b.tmps[41]?.getD undef = (.slice RA r.length rcap) := by rw [← Array.getD_eq_getD_getElem?]; exact f41
          refine good_call (wanted_none rfl) rfl (enters Tryz.func53 (by kernel_rfl) rfl) ?_
          rw [show (#[.tmp 41] : Array Operand).map b.eval = #[.slice RA r.length rcap] by simp [Act.eval, g41]]
          exact (rowCopy_c r _ w' (hrw.out w' h.ext) hrz).mono fun e w1 ⟨v1, he, ho, hx⟩ => ⟨v1, he, own_base ho (Nat.zero_le _), hx⟩
        · intro b w' h hE
          have f5 : b.tmps.getD 5 undef = (.pointer (some ⟨bc, 0, none⟩)) := hE 5 (of_decide_eq_true (by kernel_rfl))
          exact good_field (wanted_none rfl) rfl f5 (by simp [go_sem]) rfl
        · intro b w' h hE
          have f43 : b.tmps.getD 43 undef = (.pointer (some ⟨bc, 4, none⟩)) := h.dep 6 _ 43 (by kernel_rfl) rfl rfl
          have c0 := cell_later h.ext q4.out
          have c1 := cell_later h.ext q5.out
          exact good_load (wanted_none rfl) rfl f43 (by simp [go_sem, c0, c1]) rfl
      · intro b w2 hX2 hd hz he' hf
        have e37 : b.tmps.getD 37 undef = (.int .i64 id) := hf 0 _ 37 (by omega) rfl rfl
        have e38 : b.tmps.getD 38 undef = (.pointer (some ⟨bc, 0, none⟩)) := hf 1 _ 38 (by omega) rfl rfl
        have e39 : b.tmps.getD 39 undef = (.int .i64 s2) := hf 2 _ 39 (by omega) rfl rfl
        have e40 : b.tmps.getD 40 undef = (.pointer (some ⟨bc, 1, none⟩)) := hf 3 _ 40 (by omega) rfl rfl
        have e41 : b.tmps.getD 41 undef = (.slice RA r.length rcap) := hf 4 _ 41 (by omega) rfl rfl
        have f9 : RwO w2 (b.tmps.getD 42 undef) r := hf 5 _ 42 (by omega) rfl rfl
        have e43 : b.tmps.getD 43 undef = (.pointer (some ⟨bc, 4, none⟩)) := hf 6 _ 43 (by omega) rfl rfl
        have e44 : b.tmps.getD 44 undef = (.agg #[.int .i64 f, .int .i64 t]) := hf 7 _ 44 (by omega) rfl rfl
        have e := frame_puts hd hz he'
        obtain ⟨X, hXx⟩ : ∃ X : Nat → Value, ∀ d, b.tmps.getD d undef = X d := ⟨_, fun _ => rfl⟩
        rw [hXx] at e37 e38 e39 e40 e41 e43 e44 f9
        obtain ⟨A42, c42, q42⟩ := own_form f9
        rw [show dstsOf _ = [37, 38, 39, 40, 41, 42, 43, 44] from rfl] at e
        simp only [List.foldl_cons, List.foldl_nil, hXx, Act.put, List.setIfInBounds_toArray, List.set_cons_succ, List.set_cons_zero] at e
        rw [e37, e38, e39, e40, e41, e43, e44, q42] at e
        rw [q42] at f9
        replace f9 := hide f9
        clear hf he' hz hd hXx e37 e38 e39 e40 e41 e43 e44 q42
        subst e
        have hzw := hX2.size
        simp only [List.drop_succ_cons, List.drop_zero]
        obtain ⟨x, hxd⟩ : ∃ x : Pb, x = (((id, s2), r, (f, t)), w2.heap.size, .slice A42 r.length c42) := ⟨_, rfl⟩
        obtain ⟨W6, hW6⟩ : ∃ W6, W6 = w2.alloc (.cells #[.int .i64 id, .int .i64 s2, .slice A42 r.length c42, .int .i64 f, .int .i64 t] 109) := ⟨_, rfl⟩
        have hX6 : Ext W3 W6 := by rw [hW6]; exact (g5.grown.trans hX2).alloc _
        have hev : Evb W6 x := by rw [hxd, hW6]; exact Ob.new w2 _ [_, _, _, _, _]
        have hP6 := hP3.out.ext hX6
        have hM6 := hide (Mv.ext hM3.out hX6)
        have hen := hide (penter_c x W6 hP6 hs1 hev hL1 (by have := hX6.size; omega))
        have hO6 := hide (hO3.out.ext hX6)
        have hr6 : Hid (RwO W6 (.slice A42 r.length c42) r) := by show RwO _ _ _; rw [hW6]; exact own_ext f9.out ((Ext.refl w2).alloc _)
        have hK6 := hide (hK3.out.trans (kq_ext hP3.out.ob.lt hX6))
        have hB6 : Hid (Below base w W6) := hB3.out.trans (Below.mono hX6 (by omega))
        have hP6h := hide hP6
        have p4 := hP6.ob.cell 3 rfl
        haveI : In p W6 := ⟨hP6.ob.lt⟩
        have hxb : pp x.2.1 = pp w2.heap.size := by rw [hxd]
        have hW6h := hide hW6
        have hkx : (kentP x).1 = .int .i64 id := by rw [hxd]; rfl
        have hxp := hide hxd
        rw [hxb] at hen
        have hwu := hide (fun b (hb : b ∈ wrt p u3) => hub3.out b hb)
        clear hP6 hev hX6 f9 hW6
        go_wp2_with fail
        rw [← hW6h.out]
        refine hen.out.mono ?_
        rintro ee w7 ⟨rfl, u7, hP7, hF7, hk7⟩
        have hK7 := hide (hK6.out.trans (kq_fr hP6h.out hP7 hF7 (fun _ h => h) hk7))
        have hB7 : Hid (Below base w w7) := hB6.out.trans (below_fr hF7 (by have := hB6.out.size; omega) hwu.out)
        have hM7 := hide (pmv_fr hM6.out hF7 (mb_wrt hP6h.out hM6.out))
        have hO7 := hide ((kq_fr hP6h.out hP7 hF7 (fun _ h => h) hk7).typ _ _ _ hO6.out (by decide) (by decide))
        have hr7 := hide (own_kq hr6.out (kq_fr hP6h.out hP7 hF7 (fun _ h => h) hk7) (by decide) (by decide))
        have d3 := hP7.ob.cell 3 rfl
        haveI : In p w7 := ⟨hP7.ob.lt⟩
        replace hP7 := hide hP7
        clear hF7 hk7 hen
        go_wp2_with (at_mapUpdate; refine wpl_mstore rfl (.tmp 55) (.tmp 56) (.tmp 57) rfl x rfl rfl (by show _ = pp x.2.1; rw [hxb]; rfl) pKey Tryz.underlying88 hnM hM7.out (by rw [hkx]; exact pkey_of hi) ?_; intro w8 hM8 hg8)
        have hF8 : Fr [mb] w7 w8 := (Fr.refl _ _).grown hg8 (fun z hz => by obtain rfl := Option.some.inj hz; exact .inl (by simp))
        have hP8 := hide (pst_mb hP7.out hM7.out hF8)
        have hKq8 := kq_map hP7.out hM7.out hg8
        have hO8 := hide (hKq8.typ _ _ _ hO7.out (by decide) (by decide))
        have hr8 := hide (own_kq hr7.out hKq8 (by decide) (by decide))
        have hK8 := hide (hK7.out.trans hKq8)
        have hB8 : Hid (Below base w w8) := hB7.out.trans (below_fr hF8 (by have := hB7.out.size; omega) (by simp; exact hbm))
        have hM9 : Hid (Mv w8 Tryz.prog 3 kentP mb (n + 1) (insP L1 x)) := by
          refine Mv.perm hM8 ?_
          unfold putM
          rw [hkx, show delM kentP L1 (.int .i64 id) = L1 from hdl1.out]
          unfold insP
          exact (List.perm_middle.trans (by rw [List.take_append_drop])).symm
        have hrow9 := hide (fun y (hy : y ∈ insP L1 x) => (show RwO w8 y.2.2 y.1.2.1 by
          rcases mem_insP.1 hy with rfl | hy
          · rw [hxp.out]; exact hr8.out
          · exact own_kq (hR.out y (hL1s.out y hy)) hK8.out (by decide) (by decide)))
        have hres := hide (fun w9 ser9 (hP9 : Pst w9 base p sv c ser9 mb u7 (insP L1 x)) (hF9 : Fr [p] w8 w9) => pz_end hP8.out hP9 hF9 hM9.out hrow9.out (own_kq hC.out hK8.out (by decide) (by decide)))
        clear hF8 hKq8 hM8 hg8
        try dsimp only [Act.put]
        have s2c := hP8.out.ob.cell 2 rfl
        have s2f := hP8.out.ob.free 2
        have o0 := hO8.out.cell 0 rfl
        haveI : In p w8 := ⟨hP8.out.ob.lt⟩
        haveI : In bc w8 := ⟨hO8.out.lt⟩
        go_wp2_with fail
        refine wp_region_gw_tail 8 (by kernel_rfl) (by kernel_rfl) ?_
        simp only [List.take_succ_cons, List.take_zero, List.drop_succ_cons, List.drop_zero]
        repeat (go_big_quiet_step (fail))
        refine wpQuiet_nil ?_
        intro g9
        go_wp2_with fail
        go_end0
        have hPg := (hP8.out.ext g9.grown)
        have hP9 : Pst (g9.val.setCell ⟨p, 2, none⟩ (.int .i64 (max ser s2))) base p sv c (max ser s2) mb u7 (insP L1 x) := pst_ser hPg
        have hFg : Fr [p] w8 (g9.val.setCell ⟨p, 2, none⟩ (.int .i64 (max ser s2))) := (Fr.of_ext g9.grown).setCell _ _ (.inl (by simp))
        exact ⟨rfl, ⟨w2.heap.size, .slice A42 r.length c42, by rw [← hxp.out]; exact hres.out _ _ hP9 hFg⟩, hK8.out.trans (kq_fr hP8.out hP9 hFg (by simp) ou_same), hB8.out.trans (below_fr hFg (by have := hB8.out.size; omega) (by simp; exact hbp))⟩
    · have hd : decide (c < t) = false := decide_eq_false hct
      go_wp2_with fail
      try dsimp only [Act.put]
      have hP3g := hide (hP3.out.ext g5.grown)
      have hO3g := hide (hO3.out.ext g5.grown)
      have s2c := hP3g.out.ob.cell 2 rfl
      have s2f := hP3g.out.ob.free 2
      have o0 := hO3g.out.cell 0 rfl
      haveI : In p g5.val := ⟨hP3g.out.ob.lt⟩
      haveI : In bc g5.val := ⟨hO3g.out.lt⟩
      go_wp2_with fail
      refine wp_region_gw_tail 8 (by kernel_rfl) (by kernel_rfl) ?_
      simp only [List.take_succ_cons, List.take_zero, List.drop_succ_cons, List.drop_zero]
      repeat (go_big_quiet_step (fail))
      refine wpQuiet_nil ?_
      intro g9
      go_wp2_with fail
      go_end0
      have hPg := ((hP3.out.ext g5.grown).ext g9.grown)
      have hP9 : Pst (g9.val.setCell ⟨p, 2, none⟩ (.int .i64 (max ser s2))) base p sv c (max ser s2) mb u3 L1 := pst_ser hPg
      have hFg : Fr [p] W3 (g9.val.setCell ⟨p, 2, none⟩ (.int .i64 (max ser s2))) := (Fr.of_ext (g5.grown.trans g9.grown)).setCell _ _ (.inl (by simp))
      have hzz := pz_end hP3.out hP9 hFg (Mv.more hM3.out (Nat.le_succ n)) (fun y hy => own_kq (hR.out y (hL1s.out y hy)) hK3.out (by decide) (by decide)) (own_kq hC.out hK3.out (by decide) (by decide))
      first
        | exact ⟨rfl, 0, .slice none 0 0, by rw [if_neg hct]; exact hzz, hK3.out.trans (kq_fr hP3.out hP9 hFg (by simp) ou_same), hB3.out.trans (below_fr hFg (by have := hB3.out.size; omega) (by simp; exact hbp))⟩
        | (simp only [if_neg hct]; exact ⟨hzz, hK3.out.trans (kq_fr hP3.out hP9 hFg (by simp) ou_same), hB3.out.trans (below_fr hFg (by have := hB3.out.size; omega) (by simp; exact hbp))⟩)
        | (simp only [if_neg hct]; exact ⟨rfl, hzz, hK3.out.trans (kq_fr hP3.out hP9 hFg (by simp) ou_same), hB3.out.trans (below_fr hFg (by have := hB3.out.size; omega) (by simp; exact hbp))⟩)
        | exact ⟨hzz, hK3.out.trans (kq_fr hP3.out hP9 hFg (by simp) ou_same), hB3.out.trans (below_fr hFg (by have := hB3.out.size; omega) (by simp; exact hbp))⟩
        | exact ⟨rfl, hzz, hK3.out.trans (kq_fr hP3.out hP9 hFg (by simp) ou_same), hB3.out.trans (below_fr hFg (by have := hB3.out.size; omega) (by simp; exact hbp))⟩
  | some x0 =>
    obtain ⟨hx0, hxid⟩ := atP_some ho
    obtain ⟨a0, r0, hLe⟩ := List.append_of_mem hx0
    have hdd : delP L id = a0 ++ r0 := by
      rw [← hxid, hLe]
      exact del_mid (by rw [← hLe]; exact hids)
    have hs1 : Srt (a0 ++ r0) := List.Pairwise.sublist (List.Sublist.append_left (List.sublist_cons_self _ _) _) (by rw [← hLe]; exact hs : Srt (a0 ++ x0 :: r0))
    have hdl1 : delP (a0 ++ r0) id = a0 ++ r0 := by
      rw [← hdd]
      exact List.filter_eq_self.2 fun y hy => by have := (mem_delP.1 hy).2; simp [kentP, same_key, this]
    have hL1 : (a0 ++ r0).length ≤ 8192 := by have h9 := congrArg List.length hLe; simp at h9 ⊢; omega
    have hL1s : ∀ y ∈ a0 ++ r0, y ∈ L := fun y hy => by rw [← hdd] at hy; exact (mem_delP.1 hy).1
    rw [ho] at hl
    replace hl : ∀ w' [Gn w w'], (Instr.lookup 88 (.map (some mb)) (.int .i64 id) true).run Tryz.prog w' = .ok (.tuple #[pp x0.2.1, .bool true]) w' := hl
    have hP0lt := hP.ob.lt
    have hP1 := hP.ext hX1
    have hlv := pleave_c a0 r0 x0 hLe W1 hP1 hs (by omega)
    have hMx := hide (Mv.ext hM hX1)
    replace hP1 := hide hP1
    have hrv1 := hide (RwO.ext hrv hX1)
    have hB1 : Hid (Below base w W1) := by show Below _ _ _; exact Below.mono hX1 hbw
    have hK1 := hide (kq_ext (mb := mb) hP0lt hX1)
    have hz1 : base ≤ W1.heap.size := by have := hX1.size; omega
    rw [hdd]
    obtain ⟨L1, hL1e⟩ : ∃ L1, L1 = a0 ++ r0 := ⟨_, rfl⟩
    rw [← hL1e] at hlv hdd hdl1 hs1 hL1 hL1s ⊢
    replace hlv := hide hlv
    replace hdl1 := hide hdl1
    replace hL1s := hide hL1s
    replace hdd := hide hdd
    replace hO1 := hide hO1
    clear hP hM hrv hX1 hW1 hbc hL1e ho hs hids hLe hx0 hxid
    generalize x0.2.1 = xb at *
    go_enter Tryz.func45, Tryz.ntmps45
    go_wp2_with fail
    rw [← hbch.out, ← hW1h.out]
    refine hlv.out.mono ?_
    rintro ee W2 ⟨rfl, u3, hP2, hF2, hub2⟩
    have hk2 := hide (kq_fr hP1.out hP2 hF2 (fun _ h => h) (ou_eq hub2))
    have hM2 := hide (pmv_fr hMx.out hF2 (mb_wrt hP1.out hMx.out))
    have hB2 : Hid (Below base w W2) := hB1.out.trans (below_fr hF2 hz1 hub.out)
    have hub3 := hide (show ∀ b, b ∈ wrt p u3 → base ≤ b by unfold wrt; rw [hub2]; exact hub.out)
    have hz2 : base ≤ W2.heap.size := by have := hF2.size; omega
    replace hP2 := hide hP2
    have hnext : Hid (∀ W3, Mv W3 Tryz.prog 3 kentP mb n L1 → W2.grownBy W3 (some mb) → Pst W3 base p sv c ser mb u3 L1 ∧ Ob W3 bc 39 [.int .i64 s2, .slice RA r.length rcap, .int .i64 o1, .int .i64 o2, .int .i64 f, .int .i64 t] ∧ Kq p mb w W3 ∧ Below base w W3 ∧ RwO W3 (.slice RA r.length rcap) r) := by
      show ∀ W3, _ → _ → _
      intro W3 hMz hgz
      have hF3 : Fr [mb] W2 W3 := (Fr.refl _ _).grown hgz (fun z hz => by obtain rfl := Option.some.inj hz; exact .inl (by simp))
      have hq := kq_map hP2.out hM2.out hgz
      exact ⟨pst_mb hP2.out hM2.out hF3, hq.typ _ _ _ (hk2.out.typ _ _ _ hO1.out (by decide) (by decide)) (by decide) (by decide), (hK1.out.trans hk2.out).trans hq, hB2.out.trans (below_fr hF3 hz2 (by simp; exact hbm)), own_kq (own_kq hrv1.out hk2.out (by decide) (by decide)) hq (by decide) (by decide)⟩
    have d3 := hP2.out.ob.cell 3 rfl
    haveI : In p W2 := ⟨hP2.out.ob.lt⟩
    have hkid := hide (pkey_of hi)
    clear hF2 hub2
    go_wp2_with (at_delete; refine wpl_mdel rfl (.tmp 27) (.tmp 28) rfl rfl rfl pKey Tryz.underlying88 hM2.out hkid.out ?_; intro W3 hM3 hgz; (rw [show delM kentP L (.int .i64 id) = L1 from hdd.out] at hM3); obtain ⟨hP3, hO3, hK3, hB3, hr3⟩ := hnext.out _ hM3 hgz; clear hgz; replace hM3 := hide hM3; replace hP3 := hide hP3; replace hO3 := hide hO3; replace hK3 := hide hK3; replace hB3 := hide hB3; replace hr3 := hide hr3; have q0 := hO3.out.cell 0 rfl; have q5 := hO3.out.cell 5 rfl; have pc1 := hP3.out.ob.cell 1 rfl; haveI : In p W3 := ⟨hP3.out.ob.lt⟩; haveI : In bc W3 := ⟨hO3.out.lt⟩)
    have hrw3 := hide (fun w' (hX : Ext W3 w') => (RwO.ext hr3.out hX).rw)
    have hbw3 : base ≤ W3.heap.size := by have := hB3.out.size; omega
    try dsimp only [Act.put]
    refine wp_region_gw (by kernel_rfl) (by kernel_rfl) ?_
    repeat (go_big_quiet_step (fail))
    refine wpQuiet_nil ?_
    intro g5
    clear q0 q5 pc1
    by_cases hct : c < t
    · have hd : decide (c < t) = true := decide_eq_true hct
      have q0 := hide ((hO3.out.ext g5.grown).cell 0 rfl)
      have q1 := hide ((hO3.out.ext g5.grown).cell 1 rfl)
      have q4 := hide ((hO3.out.ext g5.grown).cell 4 rfl)
      have q5 := hide ((hO3.out.ext g5.grown).cell 5 rfl)
      have hrw := hide (fun w' (hX : Ext g5.val w') => hrw3.out w' (g5.grown.trans hX))
      go_wp2_with fail
      refine wp_region_list_tail 8 [(.is ((.int .i64 id))), (.is ((.pointer (some ⟨bc, 0, none⟩)))), (.is ((.int .i64 s2))), (.is ((.pointer (some ⟨bc, 1, none⟩)))), (.is ((.slice RA r.length rcap))), (.st (fun v w => RwO w v r) (fun _ _ _ h k => own_ext h k)), (.is ((.pointer (some ⟨bc, 4, none⟩)))), (.is ((.agg #[.int .i64 f, .int .i64 t])))] (by kernel_rfl) (by kernel_rfl) (by kernel_rfl) (by kernel_rfl) (by kernel_rfl) (by kernel_rfl) (by kernel_rfl) ?_ ?_
      · refine ⟨?_, ?_, ?_, ?_, ?_, ?_, ?_, ?_, trivial⟩
        · intro b w' h hE
          have f1 : b.tmps.getD 1 undef = (.int .i64 id) := hE 1 (of_decide_eq_true (by kernel_rfl))
          exact good_move (wanted_none rfl) rfl f1
        · intro b w' h hE
          have f5 : b.tmps.getD 5 undef = (.pointer (some ⟨bc, 0, none⟩)) := hE 5 (of_decide_eq_true (by kernel_rfl))
          exact good_field (wanted_none rfl) rfl f5 (by simp [go_sem]) rfl
        · intro b w' h hE
          have f38 : b.tmps.getD 38 undef = (.pointer (some ⟨bc, 0, none⟩)) := h.dep 1 _ 38 (by kernel_rfl) rfl rfl
          have c0 := cell_later h.ext q0.out
          exact good_load (wanted_none rfl) rfl f38 (by simp [go_sem, c0]) rfl
        · intro b w' h hE
          have f5 : b.tmps.getD 5 undef = (.pointer (some ⟨bc, 0, none⟩)) := hE 5 (of_decide_eq_true (by kernel_rfl))
          exact good_field (wanted_none rfl) rfl f5 (by simp [go_sem]) rfl
        · intro b w' h hE
          have f40 : b.tmps.getD 40 undef = (.pointer (some ⟨bc, 1, none⟩)) := h.dep 3 _ 40 (by kernel_rfl) rfl rfl
          have c0 := cell_later h.ext q1.out
          exact good_load (wanted_none rfl) rfl f40 (by simp [go_sem, c0]) rfl
        · intro b w' h hE
          have f41 : b.tmps.getD 41 undef = (.slice RA r.length rcap) := h.dep 4 _ 41 (by kernel_rfl) rfl rfl
          have g41 : b.tmps[41]?.getD undef = (.slice RA r.length rcap) := by rw [← Array.getD_eq_getD_getElem?]; exact f41
          refine good_call (wanted_none rfl) rfl (enters Tryz.func53 (by kernel_rfl) rfl) ?_
          rw [show (#[.tmp 41] : Array Operand).map b.eval = #[.slice RA r.length rcap] by simp [Act.eval, g41]]
          exact (rowCopy_c r _ w' (hrw.out w' h.ext) hrz).mono fun e w1 ⟨v1, he, ho, hx⟩ => ⟨v1, he, own_base ho (Nat.zero_le _), hx⟩
        · intro b w' h hE
          have f5 : b.tmps.getD 5 undef = (.pointer (some ⟨bc, 0, none⟩)) := hE 5 (of_decide_eq_true (by kernel_rfl))
          exact good_field (wanted_none rfl) rfl f5 (by simp [go_sem]) rfl
        · intro b w' h hE
          have f43 : b.tmps.getD 43 undef = (.pointer (some ⟨bc, 4, none⟩)) := h.dep 6 _ 43 (by kernel_rfl) rfl rfl
          have c0 := cell_later h.ext q4.out
          have c1 := cell_later h.ext q5.out
          exact good_load (wanted_none rfl) rfl f43 (by simp [go_sem, c0, c1]) rfl
      · intro b w2 hX2 hd hz he' hf
        have e37 : b.tmps.getD 37 undef = (.int .i64 id) := hf 0 _ 37 (by omega) rfl rfl
        have e38 : b.tmps.getD 38 undef = (.pointer (some ⟨bc, 0, none⟩)) := hf 1 _ 38 (by omega) rfl rfl
        have e39 : b.tmps.getD 39 undef = (.int .i64 s2) := hf 2 _ 39 (by omega) rfl rfl
        have e40 : b.tmps.getD 40 undef = (.pointer (some ⟨bc, 1, none⟩)) := hf 3 _ 40 (by omega) rfl rfl
        have e41 : b.tmps.getD 41 undef = (.slice RA r.length rcap) := hf 4 _ 41 (by omega) rfl rfl
        have f9 : RwO w2 (b.tmps.getD 42 undef) r := hf 5 _ 42 (by omega) rfl rfl
        have e43 : b.tmps.getD 43 undef = (.pointer (some ⟨bc, 4, none⟩)) := hf 6 _ 43 (by omega) rfl rfl
        have e44 : b.tmps.getD 44 undef = (.agg #[.int .i64 f, .int .i64 t]) := hf 7 _ 44 (by omega) rfl rfl
        have e := frame_puts hd hz he'
        obtain ⟨X, hXx⟩ : ∃ X : Nat → Value, ∀ d, b.tmps.getD d undef = X d := ⟨_, fun _ => rfl⟩
        rw [hXx] at e37 e38 e39 e40 e41 e43 e44 f9
        obtain ⟨A42, c42, q42⟩ := own_form f9
        rw [show dstsOf _ = [37, 38, 39, 40, 41, 42, 43, 44] from rfl] at e
        simp only [List.foldl_cons, List.foldl_nil, hXx, Act.put, List.setIfInBounds_toArray, List.set_cons_succ, List.set_cons_zero] at e
        rw [e37, e38, e39, e40, e41, e43, e44, q42] at e
        rw [q42] at f9
        replace f9 := hide f9
        clear hf he' hz hd hXx e37 e38 e39 e40 e41 e43 e44 q42
        subst e
        have hzw := hX2.size
        simp only [List.drop_succ_cons, List.drop_zero]
        obtain ⟨x, hxd⟩ : ∃ x : Pb, x = (((id, s2), r, (f, t)), w2.heap.size, .slice A42 r.length c42) := ⟨_, rfl⟩
        obtain ⟨W6, hW6⟩ : ∃ W6, W6 = w2.alloc (.cells #[.int .i64 id, .int .i64 s2, .slice A42 r.length c42, .int .i64 f, .int .i64 t] 109) := ⟨_, rfl⟩
        have hX6 : Ext W3 W6 := by rw [hW6]; exact (g5.grown.trans hX2).alloc _
        have hev : Evb W6 x := by rw [hxd, hW6]; exact Ob.new w2 _ [_, _, _, _, _]
        have hP6 := hP3.out.ext hX6
        have hM6 := hide (Mv.ext hM3.out hX6)
        have hen := hide (penter_c x W6 hP6 hs1 hev hL1 (by have := hX6.size; omega))
        have hO6 := hide (hO3.out.ext hX6)
        have hr6 : Hid (RwO W6 (.slice A42 r.length c42) r) := by show RwO _ _ _; rw [hW6]; exact own_ext f9.out ((Ext.refl w2).alloc _)
        have hK6 := hide (hK3.out.trans (kq_ext hP3.out.ob.lt hX6))
        have hB6 : Hid (Below base w W6) := hB3.out.trans (Below.mono hX6 (by omega))
        have hP6h := hide hP6
        have p4 := hP6.ob.cell 3 rfl
        haveI : In p W6 := ⟨hP6.ob.lt⟩
        have hxb : pp x.2.1 = pp w2.heap.size := by rw [hxd]
        have hW6h := hide hW6
        have hkx : (kentP x).1 = .int .i64 id := by rw [hxd]; rfl
        have hxp := hide hxd
        rw [hxb] at hen
        have hwu := hide (fun b (hb : b ∈ wrt p u3) => hub3.out b hb)
        clear hP6 hev hX6 f9 hW6
        go_wp2_with fail
        rw [← hW6h.out]
        refine hen.out.mono ?_
        rintro ee w7 ⟨rfl, u7, hP7, hF7, hk7⟩
        have hK7 := hide (hK6.out.trans (kq_fr hP6h.out hP7 hF7 (fun _ h => h) hk7))
        have hB7 : Hid (Below base w w7) := hB6.out.trans (below_fr hF7 (by have := hB6.out.size; omega) hwu.out)
        have hM7 := hide (pmv_fr hM6.out hF7 (mb_wrt hP6h.out hM6.out))
        have hO7 := hide ((kq_fr hP6h.out hP7 hF7 (fun _ h => h) hk7).typ _ _ _ hO6.out (by decide) (by decide))
        have hr7 := hide (own_kq hr6.out (kq_fr hP6h.out hP7 hF7 (fun _ h => h) hk7) (by decide) (by decide))
        have d3 := hP7.ob.cell 3 rfl
        haveI : In p w7 := ⟨hP7.ob.lt⟩
        replace hP7 := hide hP7
        clear hF7 hk7 hen
        go_wp2_with (at_mapUpdate; refine wpl_mstore rfl (.tmp 55) (.tmp 56) (.tmp 57) rfl x rfl rfl (by show _ = pp x.2.1; rw [hxb]; rfl) pKey Tryz.underlying88 hnM hM7.out (by rw [hkx]; exact pkey_of hi) ?_; intro w8 hM8 hg8)
        have hF8 : Fr [mb] w7 w8 := (Fr.refl _ _).grown hg8 (fun z hz => by obtain rfl := Option.some.inj hz; exact .inl (by simp))
        have hP8 := hide (pst_mb hP7.out hM7.out hF8)
        have hKq8 := kq_map hP7.out hM7.out hg8
        have hO8 := hide (hKq8.typ _ _ _ hO7.out (by decide) (by decide))
        have hr8 := hide (own_kq hr7.out hKq8 (by decide) (by decide))
        have hK8 := hide (hK7.out.trans hKq8)
        have hB8 : Hid (Below base w w8) := hB7.out.trans (below_fr hF8 (by have := hB7.out.size; omega) (by simp; exact hbm))
        have hM9 : Hid (Mv w8 Tryz.prog 3 kentP mb (n + 1) (insP L1 x)) := by
          refine Mv.perm hM8 ?_
          unfold putM
          rw [hkx, show delM kentP L1 (.int .i64 id) = L1 from hdl1.out]
          unfold insP
          exact (List.perm_middle.trans (by rw [List.take_append_drop])).symm
        have hrow9 := hide (fun y (hy : y ∈ insP L1 x) => (show RwO w8 y.2.2 y.1.2.1 by
          rcases mem_insP.1 hy with rfl | hy
          · rw [hxp.out]; exact hr8.out
          · exact own_kq (hR.out y (hL1s.out y hy)) hK8.out (by decide) (by decide)))
        have hres := hide (fun w9 ser9 (hP9 : Pst w9 base p sv c ser9 mb u7 (insP L1 x)) (hF9 : Fr [p] w8 w9) => pz_end hP8.out hP9 hF9 hM9.out hrow9.out (own_kq hC.out hK8.out (by decide) (by decide)))
        clear hF8 hKq8 hM8 hg8
        try dsimp only [Act.put]
        have s2c := hP8.out.ob.cell 2 rfl
        have s2f := hP8.out.ob.free 2
        have o0 := hO8.out.cell 0 rfl
        haveI : In p w8 := ⟨hP8.out.ob.lt⟩
        haveI : In bc w8 := ⟨hO8.out.lt⟩
        go_wp2_with fail
        refine wp_region_gw_tail 8 (by kernel_rfl) (by kernel_rfl) ?_
        simp only [List.take_succ_cons, List.take_zero, List.drop_succ_cons, List.drop_zero]
        repeat (go_big_quiet_step (fail))
        refine wpQuiet_nil ?_
        intro g9
        go_wp2_with fail
        go_end0
        have hPg := (hP8.out.ext g9.grown)
        have hP9 : Pst (g9.val.setCell ⟨p, 2, none⟩ (.int .i64 (max ser s2))) base p sv c (max ser s2) mb u7 (insP L1 x) := pst_ser hPg
        have hFg : Fr [p] w8 (g9.val.setCell ⟨p, 2, none⟩ (.int .i64 (max ser s2))) := (Fr.of_ext g9.grown).setCell _ _ (.inl (by simp))
        exact ⟨rfl, ⟨w2.heap.size, .slice A42 r.length c42, by rw [← hxp.out]; exact hres.out _ _ hP9 hFg⟩, hK8.out.trans (kq_fr hP8.out hP9 hFg (by simp) ou_same), hB8.out.trans (below_fr hFg (by have := hB8.out.size; omega) (by simp; exact hbp))⟩
    · have hd : decide (c < t) = false := decide_eq_false hct
      go_wp2_with fail
      try dsimp only [Act.put]
      have hP3g := hide (hP3.out.ext g5.grown)
      have hO3g := hide (hO3.out.ext g5.grown)
      have s2c := hP3g.out.ob.cell 2 rfl
      have s2f := hP3g.out.ob.free 2
      have o0 := hO3g.out.cell 0 rfl
      haveI : In p g5.val := ⟨hP3g.out.ob.lt⟩
      haveI : In bc g5.val := ⟨hO3g.out.lt⟩
      go_wp2_with fail
      refine wp_region_gw_tail 8 (by kernel_rfl) (by kernel_rfl) ?_
      simp only [List.take_succ_cons, List.take_zero, List.drop_succ_cons, List.drop_zero]
      repeat (go_big_quiet_step (fail))
      refine wpQuiet_nil ?_
      intro g9
      go_wp2_with fail
      go_end0
      have hPg := ((hP3.out.ext g5.grown).ext g9.grown)
      have hP9 : Pst (g9.val.setCell ⟨p, 2, none⟩ (.int .i64 (max ser s2))) base p sv c (max ser s2) mb u3 L1 := pst_ser hPg
      have hFg : Fr [p] W3 (g9.val.setCell ⟨p, 2, none⟩ (.int .i64 (max ser s2))) := (Fr.of_ext (g5.grown.trans g9.grown)).setCell _ _ (.inl (by simp))
      have hzz := pz_end hP3.out hP9 hFg (Mv.more hM3.out (Nat.le_succ n)) (fun y hy => own_kq (hR.out y (hL1s.out y hy)) hK3.out (by decide) (by decide)) (own_kq hC.out hK3.out (by decide) (by decide))
      first
        | exact ⟨rfl, 0, .slice none 0 0, by rw [if_neg hct]; exact hzz, hK3.out.trans (kq_fr hP3.out hP9 hFg (by simp) ou_same), hB3.out.trans (below_fr hFg (by have := hB3.out.size; omega) (by simp; exact hbp))⟩
        | (simp only [if_neg hct]; exact ⟨hzz, hK3.out.trans (kq_fr hP3.out hP9 hFg (by simp) ou_same), hB3.out.trans (below_fr hFg (by have := hB3.out.size; omega) (by simp; exact hbp))⟩)
        | (simp only [if_neg hct]; exact ⟨rfl, hzz, hK3.out.trans (kq_fr hP3.out hP9 hFg (by simp) ou_same), hB3.out.trans (below_fr hFg (by have := hB3.out.size; omega) (by simp; exact hbp))⟩)
        | exact ⟨hzz, hK3.out.trans (kq_fr hP3.out hP9 hFg (by simp) ou_same), hB3.out.trans (below_fr hFg (by have := hB3.out.size; omega) (by simp; exact hbp))⟩
        | exact ⟨rfl, hzz, hK3.out.trans (kq_fr hP3.out hP9 hFg (by simp) ou_same), hB3.out.trans (below_fr hFg (by have := hB3.out.size; omega) (by simp; exact hbp))⟩
end
end Go.Proofs.YtajelkkiijdegaaGreat
