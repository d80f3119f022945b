/-
  Layer 14 (past): PastFolds (under way).
-/
import Derived.Test.YtkfdkjjocdbolaaPasF
import Derived.Test.YtkfdkjjocdbolaaMsgC
import Derived.Test.YtkfdkjjocdbolaaReg3
import Derived.Test.YtkfdkjjocdbolaaFolT
import Derived.Test.YtkfdkjjocdbolaaPasS
import Derived.Test.YtkfdkjjocdbolaaPasG
set_option linter.unusedVariables false
set_option linter.unusedSimpArgs false
namespace Go.Proofs.Ytkfdkjjocdbolaa
open Go.RowKit
attribute [local go_sem] GW.cell GW.frozen In.eq_true In.le_true In.ne In.ne' In.ne_add In.ne_add' In.lt_add Upto.le_true Upto.le_add Upto.lt_add
theorem Mv.more {α : Type} {P : Program} {kt : TypeId} {f : α → Lit × Value} {b n n' : Nat} {M : List α} {w : World} (h : Mv w P kt f b n M) (hn : n ≤ n') : Mv w P kt f b n' M := by
  obtain ⟨es, h, p⟩ := h
  exact ⟨es, h.mono hn, p⟩
section
variable {base p : Nat} {sv : Value} {c ser : Int} {mb n : Nat} {u : Value} {L : List Pb} {sc : List Cl}
theorem pst_mb {w w' : World} {L' : List Pb} (hP : Pst w base p sv c ser mb u L) (hM : Mv w Try.prog 3 kentP mb n L') (hF : Fr [mb] w w') : Pst w' base p sv c ser mb u L :=
  ⟨hP.ob.fr hF (by simp; exact mv_ob hM hP.ob), powns_fr hP.own hF (fun r hr => by
    simp
    rcases hP.own.2 with ⟨h', h0⟩ | ⟨g, cap, cur, h', hb, hg, -⟩
    · rw [h'] at hr; simp [Value.ownBlock] at hr
    · rw [h'] at hr
      have h4 : Ob w g 90 cur.toList := by unfold Ob; rw [hg, Array.toArray_toList]
      have e1 : g = r := by simpa [Value.ownBlock] using hr
      rw [← e1]
      exact mv_ob hM h4), fun y hy => Ob.fr (hP.evs y hy) hF (by simp; exact mv_ob hM (hP.evs y hy))⟩
theorem pst_ser {w : World} (hP : Pst w base p sv c ser mb u L) {s2 : Int} : Pst (w.setCell ⟨p, 2, none⟩ (.int .i64 s2)) base p sv c s2 mb u L := by
  have hF : Fr [p] w (w.setCell ⟨p, 2, none⟩ (.int .i64 s2)) := (Fr.refl _ w).setCell _ _ (.inl (by simp))
  exact ⟨hP.ob.set 2 _, powns_fr hP.own hF (fun r hr => by simp; intro e; subst e; exact p_not_own hP hr), fun y hy => evb_fr (hP.evs y hy) hP hF (by simp)⟩
theorem pz_end {w w' : World} {ser9 : Int} (hP : Pst w base p sv c ser mb u L) (hP9 : Pst w' base p sv c ser9 mb u L) (hF : Fr [p] w w') (hM : Mv w Try.prog 3 kentP mb n L) (hR : ∀ y ∈ L, RwO w y.2.2 y.1.2.1) (hC : w.ownsRow 0 58 2 sv sc.length (cl sc)) : Pz w' base p sc c ser9 mb n L := by
  have hk := kq_fr hP hF (by simp)
  exact ⟨⟨sv, u, hP9, own_kq hC hk (by decide) (by decide)⟩, pmv_fr hM hF (by simp; exact fun e => mv_ob hM hP.ob e.symm), fun y hy => own_kq (hR y hy) hk (by decide) (by decide)⟩
set_option maxHeartbeats 16000000 in
set_option maxRecDepth 100000 in
theorem pset_c (id : Int) (s2 : Nat) (r : List Vl) (o1 o2 f t : Int) (rv : Value) (w : World) (h : Pz w base p sc c ser mb n L) (hs : Srt L) (hids : Ids L) (hi : inI id) (hL : L.length ≤ 8000) (hrv : RwO w rv r) (hrz : r.length * 32 ≤ 140737488351232) (hbw : base ≤ w.heap.size) (hbm : base ≤ mb) (hbp : base ≤ p) (hnM : n < maxLen) :
    Calls Try.prog 26 #[.pointer (some ⟨p, 0, none⟩), .int .i64 id, .agg #[.int .i64 s2, rv, .int .i64 o1, .int .i64 o2, .int .i64 f, .int .i64 t]] w fun e w' => e = .returned (.tuple #[]) ∧ ∃ b v, Pz w' base p sc c (max ser s2) mb (n + 1) (if c < t then insP (delP L id) (((id, s2), r, (f, t)), b, v) else delP L id) ∧ Kq w w' ∧ Below base w w' := by
  obtain ⟨⟨sv, u, hP, hC⟩, hM, hR⟩ := h
  replace hC := hide hC
  replace hR := hide hR
  obtain ⟨RA, rcap, hrve⟩ := own_form hrv
  subst hrve
  obtain ⟨bc, hbc⟩ : ∃ bc, bc = w.heap.size := ⟨_, rfl⟩
  obtain ⟨W1, hW1⟩ : ∃ W1, W1 = w.alloc (.cells #[.int .i64 s2, .slice RA r.length rcap, .int .i64 o1, .int .i64 o2, .int .i64 f, .int .i64 t] 42) := ⟨_, rfl⟩
  have hX1 : Ext w W1 := by rw [hW1]; exact (Ext.refl w).alloc _
  have hO1 : Ob W1 bc 42 [.int .i64 s2, .slice RA r.length rcap, .int .i64 o1, .int .i64 o2, .int .i64 f, .int .i64 t] := by rw [hbc, hW1]; exact Ob.new w _ [_, _, _, _, _, _]
  have hub := hide (fun b (hb : b ∈ wrt p u) => (show base ≤ b by
    rcases List.mem_cons.1 hb with rfl | hb
    · exact hbp
    · exact (hP.own.lt b (by simpa using hb)).1))
  have hl := plook_ok hM hi
  have c3 := hP.ob.cell 3 rfl
  haveI : In p w := ⟨hP.ob.lt⟩
  have hW1h := hide hW1
  have hbch := hide hbc
  cases ho : atP L id with
  | none =>
    rw [ho] at hl
    replace hl : ∀ w' [Gn w w'], (Instr.lookup 60 (.map (some mb)) (.int .i64 id) true).run Try.prog w' = .ok (.tuple #[.pointer none, .bool false]) w' := hl
    have hno := atP_none ho
    have hdl : delP L id = L := List.filter_eq_self.2 fun y hy => by have := hno y hy; simp [kentP, same_key, this]
    rw [hdl]
    obtain ⟨L1, hL1e⟩ : ∃ L1, L1 = L := ⟨_, rfl⟩
    obtain ⟨W3, hW3⟩ : ∃ W3, W3 = W1 := ⟨_, rfl⟩
    obtain ⟨u3, hu3⟩ : ∃ u3, u3 = u := ⟨_, rfl⟩
    have hP3 : Hid (Pst W3 base p sv c ser mb u3 L1) := by show Pst _ _ _ _ _ _ _ _ _; rw [hW3, hu3, hL1e]; exact hP.ext hX1
    have hM3 : Hid (Mv W3 Try.prog 3 kentP mb n L1) := by show Mv _ _ _ _ _ _ _; rw [hW3, hL1e]; exact Mv.ext hM hX1
    have hO3 : Hid (Ob W3 bc 42 [.int .i64 s2, .slice RA r.length rcap, .int .i64 o1, .int .i64 o2, .int .i64 f, .int .i64 t]) := by show Ob _ _ _ _; rw [hW3]; exact hO1
    have hK3 : Hid (Kq w W3) := by show Kq _ _; rw [hW3]; exact kq_ext hX1
    have hB3 : Hid (Below base w W3) := by show Below _ _ _; rw [hW3]; exact Below.mono hX1 hbw
    have hub3 := hide (show ∀ b, b ∈ wrt p u3 → base ≤ b by rw [hu3]; exact hub.out)
    have hs1 : Srt L1 := by rw [hL1e]; exact hs
    have hL1 : L1.length ≤ 8192 := by rw [hL1e]; omega
    have hdl1 := hide (show delP L1 id = L1 by rw [hL1e]; exact hdl)
    have hL1s := hide (show ∀ y ∈ L1, y ∈ L by rw [hL1e]; exact fun y hy => hy)
    have hrw3 := hide (fun w' (hX : Ext W3 w') => (RwO.ext hrv (hX1.trans (by rw [← hW3]; exact hX))).rw)
    have hbw3 : base ≤ W3.heap.size := by have := hB3.out.size; omega
    rw [← hL1e]
    have hW3h := hide hW3
    clear hP hM hrv hO1 hX1 hW1 hbc hno hdl hL1e hW3 hu3 ho hs hids hub
    go_enter Try.func26, Try.ntmps26
    go_wp2_with fail
    rw [← hbch.out, ← hW1h.out, ← hW3h.out]
    have q0 := hO3.out.cell 0 rfl
    have q5 := hO3.out.cell 5 rfl
    have pc1 := hP3.out.ob.cell 1 rfl
    haveI : In p W3 := ⟨hP3.out.ob.lt⟩
    haveI : In bc W3 := ⟨hO3.out.lt⟩
    go_wp2_with fail
    refine wp_region_gw (by kernel_rfl) (by kernel_rfl) ?_
    repeat (go_big_quiet_step (fail))
    refine wpQuiet_nil ?_
    intro g5
    clear q0 q5 pc1
    by_cases hct : c < t
    · have hd : decide (c < t) = true := decide_eq_true hct
      have q0 := hide ((hO3.out.ext g5.grown).cell 0 rfl)
      have q1 := hide ((hO3.out.ext g5.grown).cell 1 rfl)
      have q4 := hide ((hO3.out.ext g5.grown).cell 4 rfl)
      have q5 := hide ((hO3.out.ext g5.grown).cell 5 rfl)
      have hrw := hide (fun w' (hX : Ext g5.val w') => hrw3.out w' (g5.grown.trans hX))
      go_wp2_with fail
      refine wp_region_list_tail 8 [(.is ((.int .i64 id))), (.is ((.pointer (some ⟨bc, 0, none⟩)))), (.is ((.int .i64 s2))), (.is ((.pointer (some ⟨bc, 1, none⟩)))), (.is ((.slice RA r.length rcap))), (.st (fun v w => RwO w v r) (fun _ _ _ h k => own_ext h k)), (.is ((.pointer (some ⟨bc, 4, none⟩)))), (.is ((.agg #[.int .i64 f, .int .i64 t])))] (by kernel_rfl) (by kernel_rfl) (by kernel_rfl) (by kernel_rfl) (by kernel_rfl) (by kernel_rfl) (by kernel_rfl) ?_ ?_
      · refine ⟨?_, ?_, ?_, ?_, ?_, ?_, ?_, ?_, trivial⟩
        · intro b w' h hE
          have f1 : b.tmps.getD 1 undef = (.int .i64 id) := hE 1 (of_decide_eq_true (by kernel_rfl))
          exact good_move (wanted_none rfl) rfl f1
        · intro b w' h hE
          have f5 : b.tmps.getD 5 undef = (.pointer (some ⟨bc, 0, none⟩)) := hE 5 (of_decide_eq_true (by kernel_rfl))
          exact good_field (wanted_none rfl) rfl f5 (by simp [go_sem]) rfl
        · intro b w' h hE
          have f38 : b.tmps.getD 38 undef = (.pointer (some ⟨bc, 0, none⟩)) := h.dep 1 _ 38 (by kernel_rfl) rfl rfl
          have c0 := cell_later h.ext q0.out
          exact good_load (wanted_none rfl) rfl f38 (by simp [go_sem, c0]) rfl
        · intro b w' h hE
          have f5 : b.tmps.getD 5 undef = (.pointer (some ⟨bc, 0, none⟩)) := hE 5 (of_decide_eq_true (by kernel_rfl))
          exact good_field (wanted_none rfl) rfl f5 (by simp [go_sem]) rfl
        · intro b w' h hE
          have f40 : b.tmps.getD 40 undef = (.pointer (some ⟨bc, 1, none⟩)) := h.dep 3 _ 40 (by kernel_rfl) rfl rfl
          have c0 := cell_later h.ext q1.out
          exact good_load (wanted_none rfl) rfl f40 (by simp [go_sem, c0]) rfl
        · intro b w' h hE
          have f41 : b.tmps.getD 41 undef = (.slice RA r.length rcap) := h.dep 4 _ 41 (by kernel_rfl) rfl rfl
          have g41 : b.tmps[41]?.getD undef = (.slice RA r.length rcap) := by rw [← Array.getD_eq_getD_getElem?]; exact f41
          refine good_call (wanted_none rfl) rfl (enters Try.func29 (by kernel_rfl) rfl) ?_
          rw [show (#[.tmp 41] : Array Operand).map b.eval = #[.slice RA r.length rcap] by simp [Act.eval, g41]]
          exact (rowCopy_c r _ w' (hrw.out w' h.ext) hrz).mono fun e w1 ⟨v1, he, ho, hx⟩ => ⟨v1, he, own_base ho (Nat.zero_le _), hx⟩
        · intro b w' h hE
          have f5 : b.tmps.getD 5 undef = (.pointer (some ⟨bc, 0, none⟩)) := hE 5 (of_decide_eq_true (by kernel_rfl))
          exact good_field (wanted_none rfl) rfl f5 (by simp [go_sem]) rfl
        · intro b w' h hE
          have f43 : b.tmps.getD 43 undef = (.pointer (some ⟨bc, 4, none⟩)) := h.dep 6 _ 43 (by kernel_rfl) rfl rfl
          have c0 := cell_later h.ext q4.out
          have c1 := cell_later h.ext q5.out
          exact good_load (wanted_none rfl) rfl f43 (by simp [go_sem, c0, c1]) rfl
      · intro b w2 hX2 hd hz he' hf
        have e37 : b.tmps.getD 37 undef = (.int .i64 id) := hf 0 _ 37 (by omega) rfl rfl
        have e38 : b.tmps.getD 38 undef = (.pointer (some ⟨bc, 0, none⟩)) := hf 1 _ 38 (by omega) rfl rfl
        have e39 : b.tmps.getD 39 undef = (.int .i64 s2) := hf 2 _ 39 (by omega) rfl rfl
        have e40 : b.tmps.getD 40 undef = (.pointer (some ⟨bc, 1, none⟩)) := hf 3 _ 40 (by omega) rfl rfl
        have e41 : b.tmps.getD 41 undef = (.slice RA r.length rcap) := hf 4 _ 41 (by omega) rfl rfl
        have f9 : RwO w2 (b.tmps.getD 42 undef) r := hf 5 _ 42 (by omega) rfl rfl
        have e43 : b.tmps.getD 43 undef = (.pointer (some ⟨bc, 4, none⟩)) := hf 6 _ 43 (by omega) rfl rfl
        have e44 : b.tmps.getD 44 undef = (.agg #[.int .i64 f, .int .i64 t]) := hf 7 _ 44 (by omega) rfl rfl
        have e := frame_puts hd hz he'
        obtain ⟨X, hXx⟩ : ∃ X : Nat → Value, ∀ d, b.tmps.getD d undef = X d := ⟨_, fun _ => rfl⟩
        rw [hXx] at e37 e38 e39 e40 e41 e43 e44 f9
        obtain ⟨A42, c42, q42⟩ := own_form f9
        rw [show dstsOf _ = [37, 38, 39, 40, 41, 42, 43, 44] from rfl] at e
        simp only [List.foldl_cons, List.foldl_nil, hXx, Act.put, List.setIfInBounds_toArray, List.set_cons_succ, List.set_cons_zero] at e
        rw [e37, e38, e39, e40, e41, e43, e44, q42] at e
        rw [q42] at f9
        replace f9 := hide f9
        clear hf he' hz hd hXx e37 e38 e39 e40 e41 e43 e44 q42
        subst e
        have hzw := hX2.size
        simp only [List.drop_succ_cons, List.drop_zero]
        obtain ⟨x, hxd⟩ : ∃ x : Pb, x = (((id, s2), r, (f, t)), w2.heap.size, .slice A42 r.length c42) := ⟨_, rfl⟩
        obtain ⟨W6, hW6⟩ : ∃ W6, W6 = w2.alloc (.cells #[.int .i64 id, .int .i64 s2, .slice A42 r.length c42, .int .i64 f, .int .i64 t] 94) := ⟨_, rfl⟩
        have hX6 : Ext W3 W6 := by rw [hW6]; exact (g5.grown.trans hX2).alloc _
        have hev : Evb W6 x := by rw [hxd, hW6]; exact Ob.new w2 _ [_, _, _, _, _]
        have hP6 := hP3.out.ext hX6
        have hM6 := hide (Mv.ext hM3.out hX6)
        have hen := hide (penter_c x W6 hP6 hs1 hev hL1 (by have := hX6.size; omega))
        have hO6 := hide (hO3.out.ext hX6)
        have hr6 : Hid (RwO W6 (.slice A42 r.length c42) r) := by show RwO _ _ _; rw [hW6]; exact own_ext f9.out ((Ext.refl w2).alloc _)
        have hK6 := hide (hK3.out.trans (kq_ext hX6))
        have hB6 : Hid (Below base w W6) := hB3.out.trans (Below.mono hX6 (by omega))
        have hP6h := hide hP6
        have p4 := hP6.ob.cell 3 rfl
        haveI : In p W6 := ⟨hP6.ob.lt⟩
        have hxb : pp x.2.1 = pp w2.heap.size := by rw [hxd]
        have hW6h := hide hW6
        have hkx : (kentP x).1 = .int .i64 id := by rw [hxd]; rfl
        have hxp := hide hxd
        rw [hxb] at hen
        have hwu := hide (fun b (hb : b ∈ wrt p u3) => hub3.out b hb)
        clear hP6 hev hX6 f9 hW6
        go_wp2_with fail
        rw [← hW6h.out]
        refine hen.out.mono ?_
        rintro ee w7 ⟨rfl, u7, hP7, hF7, hk7⟩
        have hK7 := hide (hK6.out.trans (kq_fr hP6h.out hF7 (fun _ h => h)))
        have hB7 : Hid (Below base w w7) := hB6.out.trans (below_fr hF7 (by have := hB6.out.size; omega) hwu.out)
        have hM7 := hide (pmv_fr hM6.out hF7 (mb_wrt hP6h.out hM6.out))
        have hO7 := hide ((kq_fr hP6h.out hF7 (fun _ h => h)) _ _ _ hO6.out (by decide) (by decide))
        have hr7 := hide (own_kq hr6.out (kq_fr hP6h.out hF7 (fun _ h => h)) (by decide) (by decide))
        have d3 := hP7.ob.cell 3 rfl
        haveI : In p w7 := ⟨hP7.ob.lt⟩
        replace hP7 := hide hP7
        clear hF7 hk7 hen
        go_wp2_with (at_mapUpdate; refine wpl_mstore rfl (.tmp 55) (.tmp 56) (.tmp 57) rfl x rfl rfl (by show _ = pp x.2.1; rw [hxb]; rfl) pKey Try.underlying60 hnM hM7.out (by rw [hkx]; exact pkey_of hi) ?_; intro w8 hM8 hg8)
        have hF8 : Fr [mb] w7 w8 := (Fr.refl _ _).grown hg8 (fun z hz => by obtain rfl := Option.some.inj hz; exact .inl (by simp))
        have hP8 := hide (pst_mb hP7.out hM7.out hF8)
        have hKq8 := kq_map hM7.out hg8
        have hO8 := hide (hKq8 _ _ _ hO7.out (by decide) (by decide))
        have hr8 := hide (own_kq hr7.out hKq8 (by decide) (by decide))
        have hK8 := hide (hK7.out.trans hKq8)
        have hB8 : Hid (Below base w w8) := hB7.out.trans (below_fr hF8 (by have := hB7.out.size; omega) (by simp; exact hbm))
        have hM9 : Hid (Mv w8 Try.prog 3 kentP mb (n + 1) (insP L1 x)) := by
          refine Mv.perm hM8 ?_
          unfold putM
          rw [hkx, show delM kentP L1 (.int .i64 id) = L1 from hdl1.out]
          unfold insP
          exact (List.perm_middle.trans (by rw [List.take_append_drop])).symm
        have hrow9 := hide (fun y (hy : y ∈ insP L1 x) => (show RwO w8 y.2.2 y.1.2.1 by
          rcases mem_insP.1 hy with rfl | hy
          · rw [hxp.out]; exact hr8.out
          · exact own_kq (hR.out y (hL1s.out y hy)) hK8.out (by decide) (by decide)))
        have hres := hide (fun w9 ser9 (hP9 : Pst w9 base p sv c ser9 mb u7 (insP L1 x)) (hF9 : Fr [p] w8 w9) => pz_end hP8.out hP9 hF9 hM9.out hrow9.out (own_kq hC.out hK8.out (by decide) (by decide)))
        clear hF8 hKq8 hM8 hg8
        try dsimp only [Act.put]
        have s2c := hP8.out.ob.cell 2 rfl
        have s2f := hP8.out.ob.free 2
        have o0 := hO8.out.cell 0 rfl
        haveI : In p w8 := ⟨hP8.out.ob.lt⟩
        haveI : In bc w8 := ⟨hO8.out.lt⟩
        go_wp2_with fail
        refine wp_region_gw_tail 8 (by kernel_rfl) (by kernel_rfl) ?_
        simp only [List.take_succ_cons, List.take_zero, List.drop_succ_cons, List.drop_zero]
        repeat (go_big_quiet_step (fail))
        refine wpQuiet_nil ?_
        intro g9
        go_wp2_with fail
        go_end0
        have hPg := (hP8.out.ext g9.grown)
        have hP9 : Pst (g9.val.setCell ⟨p, 2, none⟩ (.int .i64 (max ser s2))) base p sv c (max ser s2) mb u7 (insP L1 x) := pst_ser hPg
        have hFg : Fr [p] w8 (g9.val.setCell ⟨p, 2, none⟩ (.int .i64 (max ser s2))) := (Fr.of_ext g9.grown).setCell _ _ (.inl (by simp))
        exact ⟨rfl, ⟨w2.heap.size, .slice A42 r.length c42, by rw [← hxp.out]; exact hres.out _ _ hP9 hFg⟩, hK8.out.trans (kq_fr hP8.out hFg (by simp)), hB8.out.trans (below_fr hFg (by have := hB8.out.size; omega) (by simp; exact hbp))⟩
    · have hd : decide (c < t) = false := decide_eq_false hct
      go_wp2_with fail
      try dsimp only [Act.put]
      have hP3g := hide (hP3.out.ext g5.grown)
      have hO3g := hide (hO3.out.ext g5.grown)
      have s2c := hP3g.out.ob.cell 2 rfl
      have s2f := hP3g.out.ob.free 2
      have o0 := hO3g.out.cell 0 rfl
      haveI : In p g5.val := ⟨hP3g.out.ob.lt⟩
      haveI : In bc g5.val := ⟨hO3g.out.lt⟩
      go_wp2_with fail
      refine wp_region_gw_tail 8 (by kernel_rfl) (by kernel_rfl) ?_
      simp only [List.take_succ_cons, List.take_zero, List.drop_succ_cons, List.drop_zero]
      repeat (go_big_quiet_step (fail))
      refine wpQuiet_nil ?_
      intro g9
      go_wp2_with fail
      go_end0
      have hPg := ((hP3.out.ext g5.grown).ext g9.grown)
      have hP9 : Pst (g9.val.setCell ⟨p, 2, none⟩ (.int .i64 (max ser s2))) base p sv c (max ser s2) mb u3 L1 := pst_ser hPg
      have hFg : Fr [p] W3 (g9.val.setCell ⟨p, 2, none⟩ (.int .i64 (max ser s2))) := (Fr.of_ext (g5.grown.trans g9.grown)).setCell _ _ (.inl (by simp))
      have hzz := pz_end hP3.out hP9 hFg (Mv.more hM3.out (Nat.le_succ n)) (fun y hy => own_kq (hR.out y (hL1s.out y hy)) hK3.out (by decide) (by decide)) (own_kq hC.out hK3.out (by decide) (by decide))
      first
        | exact ⟨rfl, 0, .slice none 0 0, by rw [if_neg hct]; exact hzz, hK3.out.trans (kq_fr hP3.out hFg (by simp)), hB3.out.trans (below_fr hFg (by have := hB3.out.size; omega) (by simp; exact hbp))⟩
        | (simp only [if_neg hct]; exact ⟨hzz, hK3.out.trans (kq_fr hP3.out hFg (by simp)), hB3.out.trans (below_fr hFg (by have := hB3.out.size; omega) (by simp; exact hbp))⟩)
        | (simp only [if_neg hct]; exact ⟨rfl, hzz, hK3.out.trans (kq_fr hP3.out hFg (by simp)), hB3.out.trans (below_fr hFg (by have := hB3.out.size; omega) (by simp; exact hbp))⟩)
        | exact ⟨hzz, hK3.out.trans (kq_fr hP3.out hFg (by simp)), hB3.out.trans (below_fr hFg (by have := hB3.out.size; omega) (by simp; exact hbp))⟩
        | exact ⟨rfl, hzz, hK3.out.trans (kq_fr hP3.out hFg (by simp)), hB3.out.trans (below_fr hFg (by have := hB3.out.size; omega) (by simp; exact hbp))⟩
  | some x0 =>
    obtain ⟨hx0, hxid⟩ := atP_some ho
    obtain ⟨a0, r0, hLe⟩ := List.append_of_mem hx0
    have hdd : delP L id = a0 ++ r0 := by
      rw [← hxid, hLe]
      exact del_mid (by rw [← hLe]; exact hids)
    have hs1 : Srt (a0 ++ r0) := List.Pairwise.sublist (List.Sublist.append_left (List.sublist_cons_self _ _) _) (by rw [← hLe]; exact hs : Srt (a0 ++ x0 :: r0))
    have hdl1 : delP (a0 ++ r0) id = a0 ++ r0 := by
      rw [← hdd]
      exact List.filter_eq_self.2 fun y hy => by have := (mem_delP.1 hy).2; simp [kentP, same_key, this]
    have hL1 : (a0 ++ r0).length ≤ 8192 := by have h9 := congrArg List.length hLe; simp at h9 ⊢; omega
    have hL1s : ∀ y ∈ a0 ++ r0, y ∈ L := fun y hy => by rw [← hdd] at hy; exact (mem_delP.1 hy).1
    rw [ho] at hl
    replace hl : ∀ w' [Gn w w'], (Instr.lookup 60 (.map (some mb)) (.int .i64 id) true).run Try.prog w' = .ok (.tuple #[pp x0.2.1, .bool true]) w' := hl
    have hP1 := hP.ext hX1
    have hlv := pleave_c a0 r0 x0 hLe W1 hP1 hs (by omega)
    have hMx := hide (Mv.ext hM hX1)
    replace hP1 := hide hP1
    have hrv1 := hide (RwO.ext hrv hX1)
    have hB1 : Hid (Below base w W1) := by show Below _ _ _; exact Below.mono hX1 hbw
    have hK1 := hide (kq_ext hX1)
    have hz1 : base ≤ W1.heap.size := by have := hX1.size; omega
    rw [hdd]
    obtain ⟨L1, hL1e⟩ : ∃ L1, L1 = a0 ++ r0 := ⟨_, rfl⟩
    rw [← hL1e] at hlv hdd hdl1 hs1 hL1 hL1s ⊢
    replace hlv := hide hlv
    replace hdl1 := hide hdl1
    replace hL1s := hide hL1s
    replace hdd := hide hdd
    replace hO1 := hide hO1
    clear hP hM hrv hX1 hW1 hbc hL1e ho hs hids hLe hx0 hxid
    generalize x0.2.1 = xb at *
    go_enter Try.func26, Try.ntmps26
    go_wp2_with fail
    rw [← hbch.out, ← hW1h.out]
    refine hlv.out.mono ?_
    rintro ee W2 ⟨rfl, u3, hP2, hF2, hub2⟩
    have hk2 := hide (kq_fr hP1.out hF2 (fun _ h => h))
    have hM2 := hide (pmv_fr hMx.out hF2 (mb_wrt hP1.out hMx.out))
    have hB2 : Hid (Below base w W2) := hB1.out.trans (below_fr hF2 hz1 hub.out)
    have hub3 := hide (show ∀ b, b ∈ wrt p u3 → base ≤ b by unfold wrt; rw [hub2]; exact hub.out)
    have hz2 : base ≤ W2.heap.size := by have := hF2.size; omega
    replace hP2 := hide hP2
    have hnext : Hid (∀ W3, Mv W3 Try.prog 3 kentP mb n L1 → W2.grownBy W3 (some mb) → Pst W3 base p sv c ser mb u3 L1 ∧ Ob W3 bc 42 [.int .i64 s2, .slice RA r.length rcap, .int .i64 o1, .int .i64 o2, .int .i64 f, .int .i64 t] ∧ Kq w W3 ∧ Below base w W3 ∧ RwO W3 (.slice RA r.length rcap) r) := by
      show ∀ W3, _ → _ → _
      intro W3 hMz hgz
      have hF3 : Fr [mb] W2 W3 := (Fr.refl _ _).grown hgz (fun z hz => by obtain rfl := Option.some.inj hz; exact .inl (by simp))
      have hq := kq_map hM2.out hgz
      exact ⟨pst_mb hP2.out hM2.out hF3, hq _ _ _ (hk2.out _ _ _ hO1.out (by decide) (by decide)) (by decide) (by decide), (hK1.out.trans hk2.out).trans hq, hB2.out.trans (below_fr hF3 hz2 (by simp; exact hbm)), own_kq (own_kq hrv1.out hk2.out (by decide) (by decide)) hq (by decide) (by decide)⟩
    have d3 := hP2.out.ob.cell 3 rfl
    haveI : In p W2 := ⟨hP2.out.ob.lt⟩
    have hkid := hide (pkey_of hi)
    clear hF2 hub2
    go_wp2_with (at_delete; refine wpl_mdel rfl (.tmp 27) (.tmp 28) rfl rfl rfl pKey Try.underlying60 hM2.out hkid.out ?_; intro W3 hM3 hgz; (rw [show delM kentP L (.int .i64 id) = L1 from hdd.out] at hM3); obtain ⟨hP3, hO3, hK3, hB3, hr3⟩ := hnext.out _ hM3 hgz; clear hgz; replace hM3 := hide hM3; replace hP3 := hide hP3; replace hO3 := hide hO3; replace hK3 := hide hK3; replace hB3 := hide hB3; replace hr3 := hide hr3; have q0 := hO3.out.cell 0 rfl; have q5 := hO3.out.cell 5 rfl; have pc1 := hP3.out.ob.cell 1 rfl; haveI : In p W3 := ⟨hP3.out.ob.lt⟩; haveI : In bc W3 := ⟨hO3.out.lt⟩)
    have hrw3 := hide (fun w' (hX : Ext W3 w') => (RwO.ext hr3.out hX).rw)
    have hbw3 : base ≤ W3.heap.size := by have := hB3.out.size; omega
    try dsimp only [Act.put]
    refine wp_region_gw (by kernel_rfl) (by kernel_rfl) ?_
    repeat (go_big_quiet_step (fail))
    refine wpQuiet_nil ?_
    intro g5
    clear q0 q5 pc1
    by_cases hct : c < t
    · have hd : decide (c < t) = true := decide_eq_true hct
      have q0 := hide ((hO3.out.ext g5.grown).cell 0 rfl)
      have q1 := hide ((hO3.out.ext g5.grown).cell 1 rfl)
      have q4 := hide ((hO3.out.ext g5.grown).cell 4 rfl)
      have q5 := hide ((hO3.out.ext g5.grown).cell 5 rfl)
      have hrw := hide (fun w' (hX : Ext g5.val w') => hrw3.out w' (g5.grown.trans hX))
      go_wp2_with fail
      refine wp_region_list_tail 8 [(.is ((.int .i64 id))), (.is ((.pointer (some ⟨bc, 0, none⟩)))), (.is ((.int .i64 s2))), (.is ((.pointer (some ⟨bc, 1, none⟩)))), (.is ((.slice RA r.length rcap))), (.st (fun v w => RwO w v r) (fun _ _ _ h k => own_ext h k)), (.is ((.pointer (some ⟨bc, 4, none⟩)))), (.is ((.agg #[.int .i64 f, .int .i64 t])))] (by kernel_rfl) (by kernel_rfl) (by kernel_rfl) (by kernel_rfl) (by kernel_rfl) (by kernel_rfl) (by kernel_rfl) ?_ ?_
      · refine ⟨?_, ?_, ?_, ?_, ?_, ?_, ?_, ?_, trivial⟩
        · intro b w' h hE
          have f1 : b.tmps.getD 1 undef = (.int .i64 id) := hE 1 (of_decide_eq_true (by kernel_rfl))
          exact good_move (wanted_none rfl) rfl f1
        · intro b w' h hE
          have f5 : b.tmps.getD 5 undef = (.pointer (some ⟨bc, 0, none⟩)) := hE 5 (of_decide_eq_true (by kernel_rfl))
          exact good_field (wanted_none rfl) rfl f5 (by simp [go_sem]) rfl
        · intro b w' h hE
          have f38 : b.tmps.getD 38 undef = (.pointer (some ⟨bc, 0, none⟩)) := h.dep 1 _ 38 (by kernel_rfl) rfl rfl
          have c0 := cell_later h.ext q0.out
          exact good_load (wanted_none rfl) rfl f38 (by simp [go_sem, c0]) rfl
        · intro b w' h hE
          have f5 : b.tmps.getD 5 undef = (.pointer (some ⟨bc, 0, none⟩)) := hE 5 (of_decide_eq_true (by kernel_rfl))
          exact good_field (wanted_none rfl) rfl f5 (by simp [go_sem]) rfl
        · intro b w' h hE
          have f40 : b.tmps.getD 40 undef = (.pointer (some ⟨bc, 1, none⟩)) := h.dep 3 _ 40 (by kernel_rfl) rfl rfl
          have c0 := cell_later h.ext q1.out
          exact good_load (wanted_none rfl) rfl f40 (by simp [go_sem, c0]) rfl
        · intro b w' h hE
          have f41 : b.tmps.getD 41 undef = (.slice RA r.length rcap) := h.dep 4 _ 41 (by kernel_rfl) rfl rfl
          have g41 : b.tmps[41]?.getD undef = (.slice RA r.length rcap) := by rw [← Array.getD_eq_getD_getElem?]; exact f41
          refine good_call (wanted_none rfl) rfl (enters Try.func29 (by kernel_rfl) rfl) ?_
          rw [show (#[.tmp 41] : Array Operand).map b.eval = #[.slice RA r.length rcap] by simp [Act.eval, g41]]
          exact (rowCopy_c r _ w' (hrw.out w' h.ext) hrz).mono fun e w1 ⟨v1, he, ho, hx⟩ => ⟨v1, he, own_base ho (Nat.zero_le _), hx⟩
        · intro b w' h hE
          have f5 : b.tmps.getD 5 undef = (.pointer (some ⟨bc, 0, none⟩)) := hE 5 (of_decide_eq_true (by kernel_rfl))
          exact good_field (wanted_none rfl) rfl f5 (by simp [go_sem]) rfl
        · intro b w' h hE
          have f43 : b.tmps.getD 43 undef = (.pointer (some ⟨bc, 4, none⟩)) := h.dep 6 _ 43 (by kernel_rfl) rfl rfl
          have c0 := cell_later h.ext q4.out
          have c1 := cell_later h.ext q5.out
          exact good_load (wanted_none rfl) rfl f43 (by simp [go_sem, c0, c1]) rfl
      · intro b w2 hX2 hd hz he' hf
        have e37 : b.tmps.getD 37 undef = (.int .i64 id) := hf 0 _ 37 (by omega) rfl rfl
        have e38 : b.tmps.getD 38 undef = (.pointer (some ⟨bc, 0, none⟩)) := hf 1 _ 38 (by omega) rfl rfl
        have e39 : b.tmps.getD 39 undef = (.int .i64 s2) := hf 2 _ 39 (by omega) rfl rfl
        have e40 : b.tmps.getD 40 undef = (.pointer (some ⟨bc, 1, none⟩)) := hf 3 _ 40 (by omega) rfl rfl
        have e41 : b.tmps.getD 41 undef = (.slice RA r.length rcap) := hf 4 _ 41 (by omega) rfl rfl
        have f9 : RwO w2 (b.tmps.getD 42 undef) r := hf 5 _ 42 (by omega) rfl rfl
        have e43 : b.tmps.getD 43 undef = (.pointer (some ⟨bc, 4, none⟩)) := hf 6 _ 43 (by omega) rfl rfl
        have e44 : b.tmps.getD 44 undef = (.agg #[.int .i64 f, .int .i64 t]) := hf 7 _ 44 (by omega) rfl rfl
        have e := frame_puts hd hz he'
        obtain ⟨X, hXx⟩ : ∃ X : Nat → Value, ∀ d, b.tmps.getD d undef = X d := ⟨_, fun _ => rfl⟩
        rw [hXx] at e37 e38 e39 e40 e41 e43 e44 f9
        obtain ⟨A42, c42, q42⟩ := own_form f9
        rw [show dstsOf _ = [37, 38, 39, 40, 41, 42, 43, 44] from rfl] at e
        simp only [List.foldl_cons, List.foldl_nil, hXx, Act.put, List.setIfInBounds_toArray, List.set_cons_succ, List.set_cons_zero] at e
        rw [e37, e38, e39, e40, e41, e43, e44, q42] at e
        rw [q42] at f9
        replace f9 := hide f9
        clear hf he' hz hd hXx e37 e38 e39 e40 e41 e43 e44 q42
        subst e
        have hzw := hX2.size
        simp only [List.drop_succ_cons, List.drop_zero]
        obtain ⟨x, hxd⟩ : ∃ x : Pb, x = (((id, s2), r, (f, t)), w2.heap.size, .slice A42 r.length c42) := ⟨_, rfl⟩
        obtain ⟨W6, hW6⟩ : ∃ W6, W6 = w2.alloc (.cells #[.int .i64 id, .int .i64 s2, .slice A42 r.length c42, .int .i64 f, .int .i64 t] 94) := ⟨_, rfl⟩
        have hX6 : Ext W3 W6 := by rw [hW6]; exact (g5.grown.trans hX2).alloc _
        have hev : Evb W6 x := by rw [hxd, hW6]; exact Ob.new w2 _ [_, _, _, _, _]
        have hP6 := hP3.out.ext hX6
        have hM6 := hide (Mv.ext hM3.out hX6)
        have hen := hide (penter_c x W6 hP6 hs1 hev hL1 (by have := hX6.size; omega))
        have hO6 := hide (hO3.out.ext hX6)
        have hr6 : Hid (RwO W6 (.slice A42 r.length c42) r) := by show RwO _ _ _; rw [hW6]; exact own_ext f9.out ((Ext.refl w2).alloc _)
        have hK6 := hide (hK3.out.trans (kq_ext hX6))
        have hB6 : Hid (Below base w W6) := hB3.out.trans (Below.mono hX6 (by omega))
        have hP6h := hide hP6
        have p4 := hP6.ob.cell 3 rfl
        haveI : In p W6 := ⟨hP6.ob.lt⟩
        have hxb : pp x.2.1 = pp w2.heap.size := by rw [hxd]
        have hW6h := hide hW6
        have hkx : (kentP x).1 = .int .i64 id := by rw [hxd]; rfl
        have hxp := hide hxd
        rw [hxb] at hen
        have hwu := hide (fun b (hb : b ∈ wrt p u3) => hub3.out b hb)
        clear hP6 hev hX6 f9 hW6
        go_wp2_with fail
        rw [← hW6h.out]
        refine hen.out.mono ?_
        rintro ee w7 ⟨rfl, u7, hP7, hF7, hk7⟩
        have hK7 := hide (hK6.out.trans (kq_fr hP6h.out hF7 (fun _ h => h)))
        have hB7 : Hid (Below base w w7) := hB6.out.trans (below_fr hF7 (by have := hB6.out.size; omega) hwu.out)
        have hM7 := hide (pmv_fr hM6.out hF7 (mb_wrt hP6h.out hM6.out))
        have hO7 := hide ((kq_fr hP6h.out hF7 (fun _ h => h)) _ _ _ hO6.out (by decide) (by decide))
        have hr7 := hide (own_kq hr6.out (kq_fr hP6h.out hF7 (fun _ h => h)) (by decide) (by decide))
        have d3 := hP7.ob.cell 3 rfl
        haveI : In p w7 := ⟨hP7.ob.lt⟩
        replace hP7 := hide hP7
        clear hF7 hk7 hen
        go_wp2_with (at_mapUpdate; refine wpl_mstore rfl (.tmp 55) (.tmp 56) (.tmp 57) rfl x rfl rfl (by show _ = pp x.2.1; rw [hxb]; rfl) pKey Try.underlying60 hnM hM7.out (by rw [hkx]; exact pkey_of hi) ?_; intro w8 hM8 hg8)
        have hF8 : Fr [mb] w7 w8 := (Fr.refl _ _).grown hg8 (fun z hz => by obtain rfl := Option.some.inj hz; exact .inl (by simp))
        have hP8 := hide (pst_mb hP7.out hM7.out hF8)
        have hKq8 := kq_map hM7.out hg8
        have hO8 := hide (hKq8 _ _ _ hO7.out (by decide) (by decide))
        have hr8 := hide (own_kq hr7.out hKq8 (by decide) (by decide))
        have hK8 := hide (hK7.out.trans hKq8)
        have hB8 : Hid (Below base w w8) := hB7.out.trans (below_fr hF8 (by have := hB7.out.size; omega) (by simp; exact hbm))
        have hM9 : Hid (Mv w8 Try.prog 3 kentP mb (n + 1) (insP L1 x)) := by
          refine Mv.perm hM8 ?_
          unfold putM
          rw [hkx, show delM kentP L1 (.int .i64 id) = L1 from hdl1.out]
          unfold insP
          exact (List.perm_middle.trans (by rw [List.take_append_drop])).symm
        have hrow9 := hide (fun y (hy : y ∈ insP L1 x) => (show RwO w8 y.2.2 y.1.2.1 by
          rcases mem_insP.1 hy with rfl | hy
          · rw [hxp.out]; exact hr8.out
          · exact own_kq (hR.out y (hL1s.out y hy)) hK8.out (by decide) (by decide)))
        have hres := hide (fun w9 ser9 (hP9 : Pst w9 base p sv c ser9 mb u7 (insP L1 x)) (hF9 : Fr [p] w8 w9) => pz_end hP8.out hP9 hF9 hM9.out hrow9.out (own_kq hC.out hK8.out (by decide) (by decide)))
        clear hF8 hKq8 hM8 hg8
        try dsimp only [Act.put]
        have s2c := hP8.out.ob.cell 2 rfl
        have s2f := hP8.out.ob.free 2
        have o0 := hO8.out.cell 0 rfl
        haveI : In p w8 := ⟨hP8.out.ob.lt⟩
        haveI : In bc w8 := ⟨hO8.out.lt⟩
        go_wp2_with fail
        refine wp_region_gw_tail 8 (by kernel_rfl) (by kernel_rfl) ?_
        simp only [List.take_succ_cons, List.take_zero, List.drop_succ_cons, List.drop_zero]
        repeat (go_big_quiet_step (fail))
        refine wpQuiet_nil ?_
        intro g9
        go_wp2_with fail
        go_end0
        have hPg := (hP8.out.ext g9.grown)
        have hP9 : Pst (g9.val.setCell ⟨p, 2, none⟩ (.int .i64 (max ser s2))) base p sv c (max ser s2) mb u7 (insP L1 x) := pst_ser hPg
        have hFg : Fr [p] w8 (g9.val.setCell ⟨p, 2, none⟩ (.int .i64 (max ser s2))) := (Fr.of_ext g9.grown).setCell _ _ (.inl (by simp))
        exact ⟨rfl, ⟨w2.heap.size, .slice A42 r.length c42, by rw [← hxp.out]; exact hres.out _ _ hP9 hFg⟩, hK8.out.trans (kq_fr hP8.out hFg (by simp)), hB8.out.trans (below_fr hFg (by have := hB8.out.size; omega) (by simp; exact hbp))⟩
    · have hd : decide (c < t) = false := decide_eq_false hct
      go_wp2_with fail
      try dsimp only [Act.put]
      have hP3g := hide (hP3.out.ext g5.grown)
      have hO3g := hide (hO3.out.ext g5.grown)
      have s2c := hP3g.out.ob.cell 2 rfl
      have s2f := hP3g.out.ob.free 2
      have o0 := hO3g.out.cell 0 rfl
      haveI : In p g5.val := ⟨hP3g.out.ob.lt⟩
      haveI : In bc g5.val := ⟨hO3g.out.lt⟩
      go_wp2_with fail
      refine wp_region_gw_tail 8 (by kernel_rfl) (by kernel_rfl) ?_
      simp only [List.take_succ_cons, List.take_zero, List.drop_succ_cons, List.drop_zero]
      repeat (go_big_quiet_step (fail))
      refine wpQuiet_nil ?_
      intro g9
      go_wp2_with fail
      go_end0
      have hPg := ((hP3.out.ext g5.grown).ext g9.grown)
      have hP9 : Pst (g9.val.setCell ⟨p, 2, none⟩ (.int .i64 (max ser s2))) base p sv c (max ser s2) mb u3 L1 := pst_ser hPg
      have hFg : Fr [p] W3 (g9.val.setCell ⟨p, 2, none⟩ (.int .i64 (max ser s2))) := (Fr.of_ext (g5.grown.trans g9.grown)).setCell _ _ (.inl (by simp))
      have hzz := pz_end hP3.out hP9 hFg (Mv.more hM3.out (Nat.le_succ n)) (fun y hy => own_kq (hR.out y (hL1s.out y hy)) hK3.out (by decide) (by decide)) (own_kq hC.out hK3.out (by decide) (by decide))
      first
        | exact ⟨rfl, 0, .slice none 0 0, by rw [if_neg hct]; exact hzz, hK3.out.trans (kq_fr hP3.out hFg (by simp)), hB3.out.trans (below_fr hFg (by have := hB3.out.size; omega) (by simp; exact hbp))⟩
        | (simp only [if_neg hct]; exact ⟨hzz, hK3.out.trans (kq_fr hP3.out hFg (by simp)), hB3.out.trans (below_fr hFg (by have := hB3.out.size; omega) (by simp; exact hbp))⟩)
        | (simp only [if_neg hct]; exact ⟨rfl, hzz, hK3.out.trans (kq_fr hP3.out hFg (by simp)), hB3.out.trans (below_fr hFg (by have := hB3.out.size; omega) (by simp; exact hbp))⟩)
        | exact ⟨hzz, hK3.out.trans (kq_fr hP3.out hFg (by simp)), hB3.out.trans (below_fr hFg (by have := hB3.out.size; omega) (by simp; exact hbp))⟩
        | exact ⟨rfl, hzz, hK3.out.trans (kq_fr hP3.out hFg (by simp)), hB3.out.trans (below_fr hFg (by have := hB3.out.size; omega) (by simp; exact hbp))⟩
end
end Go.Proofs.Ytkfdkjjocdbolaa
set_option linter.unusedVariables false
set_option linter.unusedSimpArgs false
namespace Go.Proofs.Ytkfdkjjocdbolaa
open Go.RowKit
attribute [local go_sem] GW.cell GW.frozen In.eq_true In.le_true In.ne In.ne' In.ne_add In.ne_add' In.lt_add Upto.le_true Upto.le_add Upto.lt_add
set_option maxHeartbeats 4000000 in
set_option maxRecDepth 100000 in
theorem pbegin_c (i f t : Int) (l : List Vl) (v : Value) (w : World) (hl : Rw w [] v l) (hz : l.length * 32 ≤ 140737488351232) : Calls Try.prog 41 #[.int .i64 i, .int .i64 f, .int .i64 t, v] w fun e w' => ∃ v', e = .returned (mg 1 i f t v') ∧ RwO w' v' l ∧ Ext w w' := by
  have hc := hide (fun w' (hX : Ext w w') => rowCopy_c l v w' (Sl.ext hl hX) hz)
  have hX0 := hide ((Ext.refl w).alloc (mO 0 0 0 0 (.slice none 0 0)))
  have O0 := hide (Ob.new w 28 [.int .i64 0, .int .i64 0, .int .i64 0, .int .i64 0, .slice none 0 0])
  clear hl
  go_enter Try.func41, Try.ntmps41
  go_wp2_with (go_at_call 29; refine (hc.out _ hX0.out).mono ?_; rintro ee w1 ⟨v1, rfl, ho1, hx1⟩; have O1 := O0.out.ext hx1; have c0 := O1.cell 0 rfl; have c1 := O1.cell 1 rfl; have c2 := O1.cell 2 rfl; have c3 := O1.cell 3 rfl; have c4 := O1.cell 4 rfl; have z0 := O1.free 0; have z1 := O1.free 1; have z2 := O1.free 2; have z3 := O1.free 3; have z4 := O1.free 4; have hlt1 := O1.lt; haveI : In w.heap.size w1 := ⟨hlt1⟩; obtain ⟨A1, cp1, rfl⟩ := own_form ho1)
  refine bodyPost_ret (by simp [results, Try.results41, go_sem, c0, c1, c2, c3, c4]; try rfl) rfl ?_
  have hF := (((((Fr.refl [w.heap.size] w1).setCell ⟨w.heap.size, 0, none⟩ (.int .i64 1) (.inl (by simp))).setCell ⟨w.heap.size, 1, none⟩ (.int .i64 i) (.inl (by simp))).setCell ⟨w.heap.size, 2, none⟩ (.int .i64 f) (.inl (by simp))).setCell ⟨w.heap.size, 3, none⟩ (.int .i64 t) (.inl (by simp))).setCell ⟨w.heap.size, 4, none⟩ (.slice A1 l.length cp1) (.inl (by simp))
  exact ⟨_, rfl, own_base (own_fr ho1 hF (by intro x hx; simp at hx; subst hx; simp)) (Nat.zero_le _), ext_fr (hX0.out.trans hx1) hF (by intro x hx; simp at hx; omega)⟩
theorem tMsg : ElemT Try.prog 22 28 (.agg #[.int .i64 0, .int .i64 0, .int .i64 0, .int .i64 0, .slice none 0 0]) 5 56 := ElemT.mk' Try.underlying22 (by kernel_rfl) rfl (by omega)
theorem src_msg (w : World) (xb : Nat) (k i f t : Int) (r : Value) (hr : r.oneCell' = true) (hx : Ob w xb 28 [.int .i64 k, .int .i64 i, .int .i64 f, .int .i64 t, r]) : Src Try.prog 5 22 (.slice (some ⟨xb, 0, none⟩) 1 1) 1 [.int .i64 k, .int .i64 i, .int .i64 f, .int .i64 t, r] w := by
  refine src_sl (S := []) Try.underlying22 ⟨some ⟨xb, 0, none⟩, 1, rfl, Nat.le_refl _, by decide, rfl, .inr ⟨xb, 0, rfl, by simp, fun j u hj => ?_⟩⟩ (fun u hu => ?_) (by omega)
  · rw [Nat.zero_add]; exact hx.cell j hj
  · simp at hu
    rcases hu with rfl | rfl | rfl | rfl | rfl
    all_goals first | rfl | exact hr
/-- A list of messages of one's own. -/
def OwnM (w : World) (base : Nat) (v : Value) (L : List Vm) : Prop := OwnX 28 5 (fun v m => mc1 (v, m)) (fun m => m.2) w base v L
theorem OwnM.ext {w w' : World} {base : Nat} {v : Value} {L : List Vm} (h : OwnM w base v L) (k : Ext w w') : OwnM w' base v L := OwnX.ext h k
theorem OwnM.mw {w : World} {base : Nat} {v : Value} {L : List Vm} (h : OwnM w base v L) : Mw w [] v L := ⟨Sl.own h.1 (by simp), fun p hp => (h.2 p hp).rw⟩
section
variable {base p : Nat} {sc : List Cl} {c ser : Int} {mb n : Nat} {L : List Pb}
set_option maxHeartbeats 8000000 in
set_option maxRecDepth 100000 in
theorem pgist_c (id : Int) (hi : inI id) (w : World) (h : Pz w base p sc c ser mb n L) (hr8 : ∀ y ∈ L, y.1.2.1.length ≤ 8) : Calls Try.prog 20 #[.pointer (some ⟨p, 0, none⟩), .int .i64 id] w fun e w' => ∃ v G, e = .returned v ∧ OwnM w' w.heap.size v G ∧ pms G = gistP (atP L id) c ∧ Ext w w' := by
  obtain ⟨⟨sv, u, hP, -⟩, hM, hR⟩ := h
  have c1 := hP.ob.cell 1 rfl
  have c3 := hP.ob.cell 3 rfl
  have hl := plook_ok hM hi
  haveI : In p w := ⟨hP.ob.lt⟩
  cases ho : atP L id with
  | none =>
    rw [ho] at hl
    replace hl : ∀ w' [Gn w w'], (Instr.lookup 60 (.map (some mb)) (.int .i64 id) true).run Try.prog w' = .ok (.tuple #[.pointer none, .bool false]) w' := hl
    clear hP hM hR ho
    go_enter Try.func20, Try.ntmps20
    go_wp2_with (first | (go_at_call 42; first | ((with_reducible refine seq_gw' (mark_c _ _) ?_); intro g7) | ((with_reducible refine seq_gw (mark_c _ _) ?_); intro g7)) | (at_builtin; refine wpl_app tMsg rfl (.tmp 37) (.tmp 43) rfl rfl (World.ownsRow_nil _ w.heap.size _ _) rfl (src_msg _ _ _ _ _ _ _ rfl (Ob.new _ _ [_, _, _, _, _])) (by decide) (by decide) (by simp only [World.size_alloc]; have := g7.grown.size; omega) ?_; intro v4 w4 ho4 hg4 hob4; obtain ⟨A4, cp4, e4⟩ := own_form ho4; subst e4))
    go_returns
    replace hg4 : World.grownBy _ w4 none := hg4
    have hX4 : Ext w w4 := ext_fr (g7.grown.alloc _) (S := []) ((Fr.refl _ _).grown hg4 (fun z hz => by cases hz)) (by simp)
    exact ⟨_, [(.slice none 0 0, ((3, 0, c, 0), []))], rfl, ⟨ho4, by intro q hq; rw [List.mem_singleton.1 hq]; exact World.ownsRow_nil _ _ _ _⟩, rfl, hX4⟩
  | some y =>
    rw [ho] at hl
    obtain ⟨hyL, hyi⟩ := atP_some ho
    have hev := hP.evs y hyL
    have hro := hR y hyL
    have h8 := hr8 y hyL
    obtain ⟨⟨⟨yi, ys⟩, yr, ⟨yf, yt⟩⟩, yb, yv⟩ := y
    obtain rfl : id = yi := hyi.symm
    obtain ⟨YA, ycap, hyv⟩ := own_form hro
    simp only at hyv
    subst hyv
    simp only at h8
    replace hl : ∀ w' [Gn w w'], (Instr.lookup 60 (.map (some mb)) (.int .i64 id) true).run Try.prog w' = .ok (.tuple #[pp yb, .bool true]) w' := hl
    have a2 : Hid (w.cell? ⟨yb, 2, none⟩ = some (.slice YA yr.length ycap)) := Ob.cell hev 2 rfl
    have a3 : Hid (w.cell? ⟨yb, 3, none⟩ = some (.int .i64 yf)) := Ob.cell hev 3 rfl
    have a4 : Hid (w.cell? ⟨yb, 4, none⟩ = some (.int .i64 yt)) := Ob.cell hev 4 rfl
    have hX1 := hide (Ext.refl w)
    have hyb := Ob.lt hev
    haveI : In yb w := ⟨hyb⟩
    have hbg := hide (fun w' (hX : Ext w w') => pbegin_c id yf yt yr (.slice YA yr.length ycap) w' (RwO.ext hro hX).rw (by omega))
    have c1h := hide c1
    have hpl := hide hP.ob
    clear hP hM hR ho hev hro hyL
    haveI : In p w := ⟨hpl.out.lt⟩
    go_enter Try.func20, Try.ntmps20
    go_wp2_with fail
    refine wp_region_list_tail 18 [(.is ((.slice none 0 0))), (.is ((.int .i64 id))), (.is ((pp yb))), (.is ((pp yb))), (.is ((.pointer (some ⟨yb, 3, none⟩)))), (.is ((.pointer (some ⟨yb, 3, none⟩)))), (.is ((.int .i64 yf))), (.is ((pp yb))), (.is ((pp yb))), (.is ((.pointer (some ⟨yb, 3, none⟩)))), (.is ((.pointer (some ⟨yb, 4, none⟩)))), (.is ((.int .i64 yt))), (.is ((pp yb))), (.is ((pp yb))), (.is ((.pointer (some ⟨yb, 2, none⟩)))), (.is ((.slice YA yr.length ycap))), (.st (fun v w => ∃ A cp, v = mg 1 id yf yt (.slice A yr.length cp) ∧ RwO w (.slice A yr.length cp) yr) (fun v w w' ⟨A, cp, h1, h2⟩ k => ⟨A, cp, h1, h2.ext k⟩)), (.st (fun v w => ∃ xb A cp, v = .slice (some ⟨xb, 0, none⟩) 1 1 ∧ Ob w xb 28 [.int .i64 1, .int .i64 id, .int .i64 yf, .int .i64 yt, .slice A yr.length cp] ∧ RwO w (.slice A yr.length cp) yr) (fun v w w' ⟨xb, A, cp, h1, h2, h3⟩ k => ⟨xb, A, cp, h1, h2.ext k, h3.ext k⟩))] (by kernel_rfl) (by kernel_rfl) (by kernel_rfl) (by kernel_rfl) (by kernel_rfl) (by kernel_rfl) (by kernel_rfl) ?_ ?_
    · refine ⟨?_, ?_, ?_, ?_, ?_, ?_, ?_, ?_, ?_, ?_, ?_, ?_, ?_, ?_, ?_, ?_, ?_, ?_, trivial⟩
      · intro b w' h hE
        have f5 : b.tmps.getD 5 undef = (.slice none 0 0) := hE 5 (of_decide_eq_true (by kernel_rfl))
        exact good_move (wanted_none rfl) rfl f5
      · intro b w' h hE
        have f1 : b.tmps.getD 1 undef = (.int .i64 id) := hE 1 (of_decide_eq_true (by kernel_rfl))
        exact good_move (wanted_none rfl) rfl f1
      · intro b w' h hE
        have f6 : b.tmps.getD 6 undef = (pp yb) := hE 6 (of_decide_eq_true (by kernel_rfl))
        exact good_move (wanted_none rfl) rfl f6
      · intro b w' h hE
        have f20 : b.tmps.getD 20 undef = (pp yb) := h.dep 2 _ 20 (by kernel_rfl) rfl rfl
        exact good_nilCheck (wanted_none rfl) rfl f20 rfl
      · intro b w' h hE
        have f21 : b.tmps.getD 21 undef = (pp yb) := h.dep 3 _ 21 (by kernel_rfl) rfl rfl
        exact good_field (wanted_none rfl) rfl f21 (by simp [go_sem]) rfl
      · intro b w' h hE
        have f22 : b.tmps.getD 22 undef = (.pointer (some ⟨yb, 3, none⟩)) := h.dep 4 _ 22 (by kernel_rfl) rfl rfl
        exact good_field (wanted_none rfl) rfl f22 (by simp [go_sem]) rfl
      · intro b w' h hE
        have f23 : b.tmps.getD 23 undef = (.pointer (some ⟨yb, 3, none⟩)) := h.dep 5 _ 23 (by kernel_rfl) rfl rfl
        have c0 := cell_later h.ext a3.out
        exact good_load (wanted_none rfl) rfl f23 (by simp [go_sem, c0]) rfl
      · intro b w' h hE
        have f6 : b.tmps.getD 6 undef = (pp yb) := hE 6 (of_decide_eq_true (by kernel_rfl))
        exact good_move (wanted_none rfl) rfl f6
      · intro b w' h hE
        have f25 : b.tmps.getD 25 undef = (pp yb) := h.dep 7 _ 25 (by kernel_rfl) rfl rfl
        exact good_nilCheck (wanted_none rfl) rfl f25 rfl
      · intro b w' h hE
        have f26 : b.tmps.getD 26 undef = (pp yb) := h.dep 8 _ 26 (by kernel_rfl) rfl rfl
        exact good_field (wanted_none rfl) rfl f26 (by simp [go_sem]) rfl
      · intro b w' h hE
        have f27 : b.tmps.getD 27 undef = (.pointer (some ⟨yb, 3, none⟩)) := h.dep 9 _ 27 (by kernel_rfl) rfl rfl
        exact good_field (wanted_none rfl) rfl f27 (by simp [go_sem]) rfl
      · intro b w' h hE
        have f28 : b.tmps.getD 28 undef = (.pointer (some ⟨yb, 4, none⟩)) := h.dep 10 _ 28 (by kernel_rfl) rfl rfl
        have c0 := cell_later h.ext a4.out
        exact good_load (wanted_none rfl) rfl f28 (by simp [go_sem, c0]) rfl
      · intro b w' h hE
        have f6 : b.tmps.getD 6 undef = (pp yb) := hE 6 (of_decide_eq_true (by kernel_rfl))
        exact good_move (wanted_none rfl) rfl f6
      · intro b w' h hE
        have f30 : b.tmps.getD 30 undef = (pp yb) := h.dep 12 _ 30 (by kernel_rfl) rfl rfl
        exact good_nilCheck (wanted_none rfl) rfl f30 rfl
      · intro b w' h hE
        have f31 : b.tmps.getD 31 undef = (pp yb) := h.dep 13 _ 31 (by kernel_rfl) rfl rfl
        exact good_field (wanted_none rfl) rfl f31 (by simp [go_sem]) rfl
      · intro b w' h hE
        have f32 : b.tmps.getD 32 undef = (.pointer (some ⟨yb, 2, none⟩)) := h.dep 14 _ 32 (by kernel_rfl) rfl rfl
        have c0 := cell_later h.ext a2.out
        exact good_load (wanted_none rfl) rfl f32 (by simp [go_sem, c0]) rfl
      · intro b w' h hE
        have f19 : b.tmps.getD 19 undef = (.int .i64 id) := h.dep 1 _ 19 (by kernel_rfl) rfl rfl
        have g19 : b.tmps[19]?.getD undef = (.int .i64 id) := by rw [← Array.getD_eq_getD_getElem?]; exact f19
        have f24 : b.tmps.getD 24 undef = (.int .i64 yf) := h.dep 6 _ 24 (by kernel_rfl) rfl rfl
        have g24 : b.tmps[24]?.getD undef = (.int .i64 yf) := by rw [← Array.getD_eq_getD_getElem?]; exact f24
        have f29 : b.tmps.getD 29 undef = (.int .i64 yt) := h.dep 11 _ 29 (by kernel_rfl) rfl rfl
        have g29 : b.tmps[29]?.getD undef = (.int .i64 yt) := by rw [← Array.getD_eq_getD_getElem?]; exact f29
        have f33 : b.tmps.getD 33 undef = (.slice YA yr.length ycap) := h.dep 15 _ 33 (by kernel_rfl) rfl rfl
        have g33 : b.tmps[33]?.getD undef = (.slice YA yr.length ycap) := by rw [← Array.getD_eq_getD_getElem?]; exact f33
        refine good_call (wanted_none rfl) rfl (enters Try.func41 (by kernel_rfl) rfl) ?_
        rw [show (#[.tmp 19, .tmp 24, .tmp 29, .tmp 33] : Array Operand).map b.eval = #[.int .i64 id, .int .i64 yf, .int .i64 yt, .slice YA yr.length ycap] by simp [Act.eval, g19, g24, g29, g33]]
        exact (hbg.out w' h.ext).mono fun e w1 ⟨v1, he, ho, hx⟩ => by obtain ⟨A1, cp1, e1⟩ := own_form ho; subst e1; exact ⟨_, he, ⟨A1, cp1, rfl, ho⟩, hx⟩
      · intro b w' h hE
        have f34 : ∃ A cp, (b.tmps.getD 34 undef) = mg 1 id yf yt (.slice A yr.length cp) ∧ RwO w' (.slice A yr.length cp) yr := h.dep 16 _ 34 (by kernel_rfl) rfl rfl
        obtain ⟨A9, cp9, e9, hr9⟩ := f34
        have g34' : b.tmps[34]?.getD undef = mg 1 id yf yt (.slice A9 yr.length cp9) := by rw [← Array.getD_eq_getD_getElem?]; exact e9
        have hb1 : (Instr.buildSlice 22 1 #[(0, mg 1 id yf yt (.slice A9 yr.length cp9))]).run Try.prog w' = .ok (.slice (some ⟨w'.heap.size, 0, none⟩) 1 1) (w'.alloc (mO 1 id yf yt (.slice A9 yr.length cp9))) := by simp [go_sem]
        refine good_grow (w' := w'.alloc (mO 1 id yf yt (.slice A9 yr.length cp9))) (v := .slice (some ⟨w'.heap.size, 0, none⟩) 1 1) (wanted_none rfl) ?_ ⟨_, A9, cp9, rfl, Ob.new w' _ [_, _, _, _, _], hr9.ext ((Ext.refl _).alloc _)⟩ ((Ext.refl _).alloc _)
        simp [execOp, Act.eval, g34', hb1, Sem.run_bind, Sem.run_pure, Result.andThen_ok]
    · intro b w2 hX2 hd hz he' hf
      have e18 : b.tmps.getD 18 undef = (.slice none 0 0) := hf 0 _ 18 (by omega) rfl rfl
      have e19 : b.tmps.getD 19 undef = (.int .i64 id) := hf 1 _ 19 (by omega) rfl rfl
      have e20 : b.tmps.getD 20 undef = (pp yb) := hf 2 _ 20 (by omega) rfl rfl
      have e21 : b.tmps.getD 21 undef = (pp yb) := hf 3 _ 21 (by omega) rfl rfl
      have e22 : b.tmps.getD 22 undef = (.pointer (some ⟨yb, 3, none⟩)) := hf 4 _ 22 (by omega) rfl rfl
      have e23 : b.tmps.getD 23 undef = (.pointer (some ⟨yb, 3, none⟩)) := hf 5 _ 23 (by omega) rfl rfl
      have e24 : b.tmps.getD 24 undef = (.int .i64 yf) := hf 6 _ 24 (by omega) rfl rfl
      have e25 : b.tmps.getD 25 undef = (pp yb) := hf 7 _ 25 (by omega) rfl rfl
      have e26 : b.tmps.getD 26 undef = (pp yb) := hf 8 _ 26 (by omega) rfl rfl
      have e27 : b.tmps.getD 27 undef = (.pointer (some ⟨yb, 3, none⟩)) := hf 9 _ 27 (by omega) rfl rfl
      have e28 : b.tmps.getD 28 undef = (.pointer (some ⟨yb, 4, none⟩)) := hf 10 _ 28 (by omega) rfl rfl
      have e29 : b.tmps.getD 29 undef = (.int .i64 yt) := hf 11 _ 29 (by omega) rfl rfl
      have e30 : b.tmps.getD 30 undef = (pp yb) := hf 12 _ 30 (by omega) rfl rfl
      have e31 : b.tmps.getD 31 undef = (pp yb) := hf 13 _ 31 (by omega) rfl rfl
      have e32 : b.tmps.getD 32 undef = (.pointer (some ⟨yb, 2, none⟩)) := hf 14 _ 32 (by omega) rfl rfl
      have e33 : b.tmps.getD 33 undef = (.slice YA yr.length ycap) := hf 15 _ 33 (by omega) rfl rfl
      have f34 : ∃ A cp, (b.tmps.getD 34 undef) = mg 1 id yf yt (.slice A yr.length cp) ∧ RwO w2 (.slice A yr.length cp) yr := hf 16 _ 34 (by omega) rfl rfl
      have f35 : ∃ xb A cp, (b.tmps.getD 35 undef) = .slice (some ⟨xb, 0, none⟩) 1 1 ∧ Ob w2 xb 28 [.int .i64 1, .int .i64 id, .int .i64 yf, .int .i64 yt, .slice A yr.length cp] ∧ RwO w2 (.slice A yr.length cp) yr := hf 17 _ 35 (by omega) rfl rfl
      have e := frame_puts hd hz he'
      obtain ⟨X, hXx⟩ : ∃ X : Nat → Value, ∀ d, b.tmps.getD d undef = X d := ⟨_, fun _ => rfl⟩
      rw [hXx] at e18 e19 e20 e21 e22 e23 e24 e25 e26 e27 e28 e29 e30 e31 e32 e33 f34 f35
      obtain ⟨A34, c34, q34, -⟩ := f34
      obtain ⟨xb, A35, c35, q35, hob, hrr⟩ := f35
      rw [show dstsOf _ = [18, 19, 20, 21, 22, 23, 24, 25, 26, 27, 28, 29, 30, 31, 32, 33, 34, 35] from rfl] at e
      simp only [List.foldl_cons, List.foldl_nil, hXx, Act.put, List.setIfInBounds_toArray, List.set_cons_succ, List.set_cons_zero] at e
      rw [e18, e19, e20, e21, e22, e23, e24, e25, e26, e27, e28, e29, e30, e31, e32, e33, q34, q35] at e
      clear hf he' hz hd hXx e18 e19 e20 e21 e22 e23 e24 e25 e26 e27 e28 e29 e30 e31 e32 e33 q34 q35
      subst e
      have hzw := hX2.size
      simp only [List.drop_succ_cons, List.drop_zero]
      have hX9 := hide (hX1.out.trans hX2)
      have hxb := hide hob
      replace hrr := hide hrr
      have c1w := hide c1h.out
      clear hob hbg a2 a3 a4
      go_wp2_with (first | (go_at_call 42; first | ((with_reducible refine seq_gw' (mark_c _ _) ?_); intro g7) | ((with_reducible refine seq_gw (mark_c _ _) ?_); intro g7)) | (at_builtin; refine wpl_app tMsg rfl (.tmp 18) (.tmp 35) rfl rfl (World.ownsRow_nil _ w.heap.size _ _) rfl (src_msg _ _ _ _ _ _ _ rfl hxb.out) (by decide) (by decide) (by have := hX9.out.size; omega) ?_; intro v4 w4 ho4 hg4 hob4; obtain ⟨A4, cp4, e4⟩ := own_form ho4; subst e4; replace hg4 : World.grownBy _ w4 none := hg4; have hX4 := hide (ext_fr hX9.out (S := []) ((Fr.refl _ _).grown hg4 (fun z hz => by cases hz)) (by simp)); have hm4 := hide (OwnX.app (f := fun v m => mc1 (v, m)) (row := fun m : PM => m.2) (M := [((.slice A35 yr.length c35), ((1, id, yf, yt), yr))]) (by decide) (OwnX.nil _ _) ho4 hg4 (by intro q hq; rw [List.mem_singleton.1 hq]; exact hrr.out)); replace ho4 := hide ho4; clear hob4 hg4; have c14 := pcell_later hX4.out c1h.out; haveI : In p w4 := ⟨Nat.lt_of_lt_of_le hpl.out.lt hX4.out.size⟩) | (at_builtin; refine wpl_app tMsg rfl (.tmp 37) (.tmp 43) rfl rfl (own_ext ho4.out (g7.grown.alloc _)) rfl (src_msg _ _ _ _ _ _ _ rfl (Ob.new _ _ [_, _, _, _, _])) (by decide) (by decide) (by simp only [World.size_alloc]; have := g7.grown.size; have := hX4.out.size; omega) ?_; intro v5 w5 ho5 hg5 hob5; obtain ⟨A5, cp5, e5⟩ := own_form ho5; subst e5; replace hg5 : World.grownBy _ w5 (Value.slice A4 (0 + 1) cp4).ownBlock := hg5; have hm5 := hide (OwnX.app (f := fun v m => mc1 (v, m)) (row := fun m : PM => m.2) (M := [((.slice none 0 0), ((3, 0, c, 0), []))]) (by decide) (hm4.out.ext (g7.grown.alloc _)) ho5 hg5 (by intro q hq; rw [List.mem_singleton.1 hq]; exact World.ownsRow_nil _ _ _ _))))
      go_returns
      have hX5 : Ext w w5 := ext_fr (hX4.out.trans (g7.grown.alloc _)) (fr_grown hg5) (fun b hb => (ob_ge ho4.out b hb).1)
      exact ⟨_, _, rfl, hm5.out, rfl, hX5⟩
end
end Go.Proofs.Ytkfdkjjocdbolaa
set_option linter.unusedVariables false
set_option linter.unusedSimpArgs false
namespace Go.Proofs.Ytkfdkjjocdbolaa
open Go.RowKit
attribute [local go_sem] GW.cell GW.frozen In.eq_true In.le_true In.ne In.ne' In.ne_add In.ne_add' In.lt_add Upto.le_true Upto.le_add Upto.lt_add
set_option maxHeartbeats 4000000 in
set_option maxRecDepth 100000 in
theorem plastM_c (L0 : List Vm) (q : Vm) (v : Value) (w : World) (hL : Mw w [] v (L0 ++ [q])) (hlen : L0.length ≤ 100000) : Calls Try.prog 43 #[v] w fun e w' => e = .returned (mg q.2.1.1 q.2.1.2.1 q.2.1.2.2.1 q.2.1.2.2.2 q.1) ∧ Ext w w' := by
  obtain ⟨QA, qc, hq⟩ := rw_val (hL.2 q (by simp))
  obtain ⟨A, cap, rfl, h1, h2, h3⟩ := mw_form hL
  obtain ⟨b, o, rfl, -, hb, c0, c1, c2, c3, c4⟩ := h3 L0.length q (by simp)
  obtain ⟨qv, ⟨k, i, f, t⟩, r⟩ := q
  simp only at *
  subst hq
  have hn : (L0 ++ [((.slice QA r.length qc : Value), (((k, i, f, t), r) : PM))]).length = L0.length + 1 := by simp
  rw [hn] at h1 ⊢
  unfold maxLen at h2
  generalize L0.length = N at *
  haveI : In b w := ⟨hb⟩
  have hN : (N : Int) < N + 1 := by omega
  clear hL h3 hn
  go_enter Try.func43, Try.ntmps43
  go_wp2_with fail
  go_returns
  exact ⟨rfl, (Ext.refl w).alloc _⟩
set_option maxHeartbeats 4000000 in
set_option maxRecDepth 100000 in
theorem plastC_c (M0 : List (Value × Ch)) (q : Value × Ch) (v : Value) (w : World) (base : Nat) (hL : OwnCh w base v (M0 ++ [q])) (hlen : M0.length ≤ 100000) : Calls Try.prog 23 #[v] w fun e w' => e = .returned (.agg (chO q.1 q.2).toArray) ∧ Ext w w' := by
  obtain ⟨QA, qc, hq⟩ := own_form (hL.2 q (by simp))
  obtain ⟨qv, k, r, ⟨o1, o2⟩, n1, n2⟩ := q
  simp only at *
  subst hq
  have hn : (M0 ++ [((.slice QA r.length qc : Value), ((k, r, (o1, o2), n1, n2) : Ch))]).length = M0.length + 1 := by simp
  have hown := hL.1
  rw [hn] at hown
  have hlm : (M0.flatMap fun p => chO p.1 p.2).length = M0.length * 6 := by
    clear hL hown hn hlen
    induction M0 with
    | nil => rfl
    | cons p r ih => rw [List.flatMap_cons, List.length_append, ih, List.length_cons]; simp [chO]; omega
  obtain ⟨b, o, rfl⟩ : ∃ (b : Nat) (cap : Nat), v = .slice (some ⟨b, 0, none⟩) (M0.length + 1) cap := by
    rcases hown.2 with ⟨h', h0⟩ | ⟨g, cap, cur, h', -⟩
    · omega
    · exact ⟨g, cap, h'⟩
  have hb := (World.ownsRow.lt hown b rfl).2
  have hc : ∀ j u, (chO (.slice QA r.length qc) (k, r, (o1, o2), n1, n2))[j]? = some u → w.cell? ⟨b, M0.length * 6 + j, none⟩ = some u := fun j u hj => by
    have hj6 : j < 6 := by have := (List.getElem?_eq_some_iff.1 hj).1; simpa [chO] using this
    rw [World.ownsRow.cellAt hown _ (by omega), List.flatMap_append, List.getElem?_append_right (by omega), hlm, Nat.add_sub_cancel_left]
    simpa using hj
  have c0 := hc 0 _ rfl
  have c1 := hc 1 _ rfl
  have c2 := hc 2 _ rfl
  have c3 := hc 3 _ rfl
  have c4 := hc 4 _ rfl
  have c5 := hc 5 _ rfl
  have hle := hown.2
  replace hle : M0.length + 1 ≤ o ∧ o ≤ 9223372036854775807 := by
    rcases hle with ⟨h', h0⟩ | ⟨g, cap, cur, h', hb, hg, hnc, hcm, -⟩
    · omega
    · simp only [Value.slice.injEq] at h'
      unfold maxLen at hcm
      exact ⟨by omega, by omega⟩
  obtain ⟨hle1, hle2⟩ := hle
  simp only [Nat.add_zero] at c0
  generalize M0.length = N at *
  haveI : In b w := ⟨hb⟩
  have hN : (N : Int) < N + 1 := by omega
  clear hL hn hown hlm hc
  go_enter Try.func23, Try.ntmps23
  go_wp2_with fail
  go_returns
  exact ⟨rfl, (Ext.refl w).alloc _⟩
set_option maxHeartbeats 4000000 in
set_option maxRecDepth 100000 in
theorem plastE_c (l : List Int) (x : Int) (v : Value) (w : World) (base : Nat) (hL : w.ownsRow base 34 1 v (l ++ [x]).length (ns (l ++ [x]))) (hlen : l.length ≤ 100000) : Calls Try.prog 46 #[v] w fun e w' => e = .returned (.int .i64 x) ∧ Ext w w' := by
  have hn : (l ++ [x]).length = l.length + 1 := by simp
  rw [hn] at hL
  obtain ⟨b, o, rfl⟩ : ∃ (b : Nat) (cap : Nat), v = .slice (some ⟨b, 0, none⟩) (l.length + 1) cap := by
    rcases hL.2 with ⟨h', h0⟩ | ⟨g, cap, cur, h', -⟩
    · omega
    · exact ⟨g, cap, h'⟩
  have hb := (World.ownsRow.lt hL b rfl).2
  have c0 : w.cell? ⟨b, l.length, none⟩ = some (.int .i64 x) := by
    have := World.ownsRow.cellAt hL l.length (by omega)
    rw [this]
    simp [ns]
  have hle := hL.2
  replace hle : l.length + 1 ≤ o ∧ o ≤ 9223372036854775807 := by
    rcases hle with ⟨h', h0⟩ | ⟨g, cap, cur, h', hb, hg, hnc, hcm, -⟩
    · omega
    · simp only [Value.slice.injEq] at h'
      unfold maxLen at hcm
      exact ⟨by omega, by omega⟩
  obtain ⟨hle1, hle2⟩ := hle
  generalize l.length = N at *
  haveI : In b w := ⟨hb⟩
  have hN : (N : Int) < N + 1 := by omega
  clear hL hn
  go_enter Try.func46, Try.ntmps46
  go_wp2_with fail
  go_returns
  exact ⟨rfl, Ext.refl _⟩
section
variable {base p : Nat} {sc : List Cl} {c ser : Int} {mb n : Nat} {L : List Pb}
set_option maxHeartbeats 2000000 in
theorem pcount_c (w : World) (h : Pz w base p sc c ser mb n L) : Calls Try.prog 12 #[.pointer (some ⟨p, 0, none⟩)] w fun e w' => e = .returned (.int .i64 (L.length : Int)) ∧ Ext w w' := by
  obtain ⟨⟨sv, u, hP, -⟩, hM, -⟩ := h
  have c3 := hP.ob.cell 3 rfl
  haveI : In p w := ⟨hP.ob.lt⟩
  have hl := hM.len Try.underlying60
  go_enter Try.func12, Try.ntmps12
  go_wp2_with fail
  go_returns
  exact ⟨rfl, Ext.refl _⟩
set_option maxHeartbeats 2000000 in
theorem pclock_c (w : World) (h : Pz w base p sc c ser mb n L) : Calls Try.prog 11 #[.pointer (some ⟨p, 0, none⟩)] w fun e w' => e = .returned (.int .i64 c) ∧ Ext w w' := by
  obtain ⟨⟨sv, u, hP, -⟩, hM, -⟩ := h
  have c1 := hP.ob.cell 1 rfl
  haveI : In p w := ⟨hP.ob.lt⟩
  clear hM hP
  go_enter Try.func11, Try.ntmps11
  go_wp2_with fail
  go_returns
  exact ⟨rfl, Ext.refl _⟩
end
end Go.Proofs.Ytkfdkjjocdbolaa
set_option linter.unusedVariables false
set_option linter.unusedSimpArgs false
namespace Go.Proofs.Ytkfdkjjocdbolaa
open Go.RowKit
attribute [local go_sem] GW.cell GW.frozen In.eq_true In.le_true In.ne In.ne' In.ne_add In.ne_add' In.lt_add Upto.le_true Upto.le_add Upto.lt_add
def resI (K : Int) (ins fit : Bool) (E : Int) (cnt : Nat) : Int := if K = 0 then if ins && !fit then 17 else if E = 0 then if ins && decide (4096 ≤ cnt) then 7 else 0 else E else K
section
variable {base p : Nat} {sc : List Cl} {c ser : Int} {mb n : Nat} {L : List Pb}
set_option maxHeartbeats 16000000 in
set_option maxRecDepth 100000 in
theorem presult_c (G : List Vm) (q : Vm) (lv : Value) (w : World) (h : Pz w base p sc c ser mb n L) (hL : Mw w [] lv (G ++ [q])) (hin : ∀ p ∈ G ++ [q], inM p.2) (hlen : G.length ≤ 1000) (E : Int) (hE : (runE (0, []) (pms (G ++ [q]))).getLast? = some E) (hcl : L.length ≤ 8192) :
    Calls Try.prog 21 #[.pointer (some ⟨p, 0, none⟩), lv] w fun e w' => e = .returned (.int .i64 (resI (mkM q.2) (decide (q.2.1.1 = 1)) (fitsS sc q.2.2) E L.length)) ∧ Ext w w' := by
  have hlast := hide (plastM_c G q lv w hL (by omega))
  have hq := hL.2 q (by simp)
  have hans := hide (fun w' (hX : Ext w w') => answers_c (G ++ [q]) lv w' (hL.ext hX) hin (by simp; omega))
  have hrl := runE_len (pms (G ++ [q])) (0, [])
  obtain ⟨l0, hl0e⟩ := List.getLast?_eq_some_iff.1 hE
  rw [hl0e] at hans hrl
  have hl0 : l0.length ≤ 100000 := by simp [pms] at hrl; omega
  have hcnt := hide (fun w' (hX : Ext w w') => pcount_c w' (h.ext hX))
  obtain ⟨⟨sv, u, hP, hC⟩, hM, hR⟩ := h
  obtain ⟨SA, scap, hsv⟩ := own_form hC
  subst hsv
  obtain ⟨qv, ⟨k, i, f, t⟩, r⟩ := q
  obtain ⟨QA, qc, hqv⟩ := rw_val hq
  simp only at hqv
  subst hqv
  have hchk := hide (fun w' (hX : Ext w w') => check_c k i f t r (.slice QA r.length qc) w' (Sl.ext hq hX))
  have hfit := hide (fun w' (hX : Ext w w') => fitsS_c (l := sc) (m := r) (v := .slice SA sc.length scap) (u := .slice QA r.length qc) (Sl.ext (Sl.own hC (by simp)) hX) (Sl.ext hq hX))
  have hpo := hide hP.ob
  simp only at hlast ⊢
  rw [show mkM ((k, i, f, t), r) = mchk k i f t r from rfl]
  generalize mchk k i f t r = K at *
  generalize fitsS sc r = F at *
  generalize L.length = cn at *
  haveI : In p w := ⟨hpo.out.lt⟩
  clear hL hin hE hrl hl0e hP hC hM hR hq
  unfold resI
  by_cases hK : K = 0
  · subst hK
    rw [if_pos rfl]
    by_cases hk : k = 1
    · subst hk
      rw [decide_eq_true (rfl : (1 : Int) = 1), Bool.true_and, Bool.true_and]
      cases F
      · rw [if_pos (by rfl)]
        go_enter Try.func21, Try.ntmps21
        go_wp2_with (first | (go_at_call 43; (with_reducible refine seq_gw hlast.out ?_); intro g1) | (go_at_call 44; (with_reducible refine seq_gw (hchk.out _ (g1.grown.alloc _)) ?_); intro g2; have hX2 := hide ((g1.grown.alloc (mO 1 i f t (.slice QA r.length qc))).trans g2.grown); have O2 := hide ((Ob.new g1.val 28 [.int .i64 1, .int .i64 i, .int .i64 f, .int .i64 t, .slice QA r.length qc]).ext g2.grown); have m0 := O2.out.cell 0 rfl; have m4 := O2.out.cell 4 rfl; have P2 := hide (hpo.out.ext hX2.out); have p0 := P2.out.cell 0 rfl; haveI : In g1.val.heap.size g2.val := ⟨O2.out.lt⟩; haveI : In p g2.val := ⟨P2.out.lt⟩))
        refine wp_region_gw (by kernel_rfl) (by kernel_rfl) ?_
        repeat (go_big_quiet_step ((go_at_call 45; with_reducible exact quiet_gw (hfit.out _ (hX2.out.trans (GW.grown _))))))
        refine wpQuiet_nil ?_
        intro g3
        clear m4 p0
        go_wp2_with fail
        go_returns
        exact ⟨rfl, hX2.out.trans g3.grown⟩
      · rw [if_neg (by simp)]
        by_cases hE0 : E = 0
        · subst hE0
          rw [if_pos rfl]
          by_cases hc : 4096 ≤ cn
          · rw [decide_eq_true hc, if_pos rfl]
            have hc1 : (4096 : Int) ≤ cn := by omega
            have hc2 : decide ((4096 : Int) ≤ cn) = true := decide_eq_true hc1
            go_enter Try.func21, Try.ntmps21
            go_wp2_with (first | (go_at_call 43; (with_reducible refine seq_gw hlast.out ?_); intro g1) | (go_at_call 44; (with_reducible refine seq_gw (hchk.out _ (g1.grown.alloc _)) ?_); intro g2; have hX2 := hide ((g1.grown.alloc (mO 1 i f t (.slice QA r.length qc))).trans g2.grown); have O2 := hide ((Ob.new g1.val 28 [.int .i64 1, .int .i64 i, .int .i64 f, .int .i64 t, .slice QA r.length qc]).ext g2.grown); have m0 := O2.out.cell 0 rfl; have m4 := O2.out.cell 4 rfl; have P2 := hide (hpo.out.ext hX2.out); have p0 := P2.out.cell 0 rfl; haveI : In g1.val.heap.size g2.val := ⟨O2.out.lt⟩; haveI : In p g2.val := ⟨P2.out.lt⟩))
            refine wp_region_gw (by kernel_rfl) (by kernel_rfl) ?_
            repeat (go_big_quiet_step ((go_at_call 45; with_reducible exact quiet_gw (hfit.out _ (hX2.out.trans (GW.grown _))))))
            refine wpQuiet_nil ?_
            intro g3
            clear m4 p0
            go_wp2_with (first | (go_at_call 8; refine (hans.out _ (hX2.out.trans g3.grown)).mono ?_; rintro ee w4 ⟨v4, rfl, ho4, hX4⟩; have hX5 := hide ((hX2.out.trans g3.grown).trans hX4); have hlE := hide (plastE_c l0 _ v4 w4 _ ho4 hl0); have O4 := hide (O2.out.ext (g3.grown.trans hX4)); clear ho4 hX4) | (go_at_call 46; (with_reducible refine seq_gw hlE.out ?_); intro g6; have n0 := (O4.out.ext g6.grown).cell 0 rfl; haveI : In g1.val.heap.size g6.val := ⟨(O4.out.ext g6.grown).lt⟩) | (go_at_call 12; (with_reducible refine seq_gw (hcnt.out _ (hX5.out.trans g6.grown)) ?_); intro g7))
            go_returns
            exact ⟨rfl, (hX5.out.trans g6.grown).trans g7.grown⟩
          · rw [decide_eq_false hc, if_neg (by simp)]
            have hc1 : ¬ (4096 : Int) ≤ cn := by omega
            have hc2 : decide ((4096 : Int) ≤ cn) = false := decide_eq_false hc1
            go_enter Try.func21, Try.ntmps21
            go_wp2_with (first | (go_at_call 43; (with_reducible refine seq_gw hlast.out ?_); intro g1) | (go_at_call 44; (with_reducible refine seq_gw (hchk.out _ (g1.grown.alloc _)) ?_); intro g2; have hX2 := hide ((g1.grown.alloc (mO 1 i f t (.slice QA r.length qc))).trans g2.grown); have O2 := hide ((Ob.new g1.val 28 [.int .i64 1, .int .i64 i, .int .i64 f, .int .i64 t, .slice QA r.length qc]).ext g2.grown); have m0 := O2.out.cell 0 rfl; have m4 := O2.out.cell 4 rfl; have P2 := hide (hpo.out.ext hX2.out); have p0 := P2.out.cell 0 rfl; haveI : In g1.val.heap.size g2.val := ⟨O2.out.lt⟩; haveI : In p g2.val := ⟨P2.out.lt⟩))
            refine wp_region_gw (by kernel_rfl) (by kernel_rfl) ?_
            repeat (go_big_quiet_step ((go_at_call 45; with_reducible exact quiet_gw (hfit.out _ (hX2.out.trans (GW.grown _))))))
            refine wpQuiet_nil ?_
            intro g3
            clear m4 p0
            go_wp2_with (first | (go_at_call 8; refine (hans.out _ (hX2.out.trans g3.grown)).mono ?_; rintro ee w4 ⟨v4, rfl, ho4, hX4⟩; have hX5 := hide ((hX2.out.trans g3.grown).trans hX4); have hlE := hide (plastE_c l0 _ v4 w4 _ ho4 hl0); have O4 := hide (O2.out.ext (g3.grown.trans hX4)); clear ho4 hX4) | (go_at_call 46; (with_reducible refine seq_gw hlE.out ?_); intro g6; have n0 := (O4.out.ext g6.grown).cell 0 rfl; haveI : In g1.val.heap.size g6.val := ⟨(O4.out.ext g6.grown).lt⟩) | (go_at_call 12; (with_reducible refine seq_gw (hcnt.out _ (hX5.out.trans g6.grown)) ?_); intro g7))
            go_returns
            exact ⟨rfl, (hX5.out.trans g6.grown).trans g7.grown⟩
        · rw [if_neg hE0]
          have hE1 : (E == 0) = false := by simp [hE0]
          have hE2 : decide (E = 0) = false := decide_eq_false hE0
          go_enter Try.func21, Try.ntmps21
          go_wp2_with (first | (go_at_call 43; (with_reducible refine seq_gw hlast.out ?_); intro g1) | (go_at_call 44; (with_reducible refine seq_gw (hchk.out _ (g1.grown.alloc _)) ?_); intro g2; have hX2 := hide ((g1.grown.alloc (mO 1 i f t (.slice QA r.length qc))).trans g2.grown); have O2 := hide ((Ob.new g1.val 28 [.int .i64 1, .int .i64 i, .int .i64 f, .int .i64 t, .slice QA r.length qc]).ext g2.grown); have m0 := O2.out.cell 0 rfl; have m4 := O2.out.cell 4 rfl; have P2 := hide (hpo.out.ext hX2.out); have p0 := P2.out.cell 0 rfl; haveI : In g1.val.heap.size g2.val := ⟨O2.out.lt⟩; haveI : In p g2.val := ⟨P2.out.lt⟩))
          refine wp_region_gw (by kernel_rfl) (by kernel_rfl) ?_
          repeat (go_big_quiet_step ((go_at_call 45; with_reducible exact quiet_gw (hfit.out _ (hX2.out.trans (GW.grown _))))))
          refine wpQuiet_nil ?_
          intro g3
          clear m4 p0
          go_wp2_with (first | (go_at_call 8; refine (hans.out _ (hX2.out.trans g3.grown)).mono ?_; rintro ee w4 ⟨v4, rfl, ho4, hX4⟩; have hX5 := hide ((hX2.out.trans g3.grown).trans hX4); have hlE := hide (plastE_c l0 _ v4 w4 _ ho4 hl0); have O4 := hide (O2.out.ext (g3.grown.trans hX4)); clear ho4 hX4) | (go_at_call 46; (with_reducible refine seq_gw hlE.out ?_); intro g6; have n0 := (O4.out.ext g6.grown).cell 0 rfl; haveI : In g1.val.heap.size g6.val := ⟨(O4.out.ext g6.grown).lt⟩) | (go_at_call 12; (with_reducible refine seq_gw (hcnt.out _ (hX5.out.trans g6.grown)) ?_); intro g7))
          go_returns
          exact ⟨rfl, hX5.out.trans g6.grown⟩
    · have hk1 : (k == 1) = false := by simp [hk]
      have hk2 : decide (k = 1) = false := decide_eq_false hk
      simp only [hk2, Bool.false_and, Bool.false_eq_true, if_false]
      by_cases hE0 : E = 0
      · subst hE0
        rw [if_pos rfl]
        go_enter Try.func21, Try.ntmps21
        go_wp2_with (first | (go_at_call 43; (with_reducible refine seq_gw hlast.out ?_); intro g1) | (go_at_call 44; (with_reducible refine seq_gw (hchk.out _ (g1.grown.alloc _)) ?_); intro g2; have hX2 := hide ((g1.grown.alloc (mO k i f t (.slice QA r.length qc))).trans g2.grown); have O2 := hide ((Ob.new g1.val 28 [.int .i64 k, .int .i64 i, .int .i64 f, .int .i64 t, .slice QA r.length qc]).ext g2.grown); have m0 := O2.out.cell 0 rfl; have m4 := O2.out.cell 4 rfl; have P2 := hide (hpo.out.ext hX2.out); have p0 := P2.out.cell 0 rfl; haveI : In g1.val.heap.size g2.val := ⟨O2.out.lt⟩; haveI : In p g2.val := ⟨P2.out.lt⟩))
        refine wp_region_gw (by kernel_rfl) (by kernel_rfl) ?_
        repeat (go_big_quiet_step ((go_at_call 45; with_reducible exact quiet_gw (hfit.out _ (hX2.out.trans (GW.grown _))))))
        refine wpQuiet_nil ?_
        intro g3
        clear m4 p0
        go_wp2_with (first | (go_at_call 8; refine (hans.out _ (hX2.out.trans g3.grown)).mono ?_; rintro ee w4 ⟨v4, rfl, ho4, hX4⟩; have hX5 := hide ((hX2.out.trans g3.grown).trans hX4); have hlE := hide (plastE_c l0 _ v4 w4 _ ho4 hl0); have O4 := hide (O2.out.ext (g3.grown.trans hX4)); clear ho4 hX4) | (go_at_call 46; (with_reducible refine seq_gw hlE.out ?_); intro g6; have n0 := (O4.out.ext g6.grown).cell 0 rfl; haveI : In g1.val.heap.size g6.val := ⟨(O4.out.ext g6.grown).lt⟩) | (go_at_call 12; (with_reducible refine seq_gw (hcnt.out _ (hX5.out.trans g6.grown)) ?_); intro g7))
        go_returns
        exact ⟨rfl, hX5.out.trans g6.grown⟩
      · rw [if_neg hE0]
        have hE1 : (E == 0) = false := by simp [hE0]
        have hE2 : decide (E = 0) = false := decide_eq_false hE0
        go_enter Try.func21, Try.ntmps21
        go_wp2_with (first | (go_at_call 43; (with_reducible refine seq_gw hlast.out ?_); intro g1) | (go_at_call 44; (with_reducible refine seq_gw (hchk.out _ (g1.grown.alloc _)) ?_); intro g2; have hX2 := hide ((g1.grown.alloc (mO k i f t (.slice QA r.length qc))).trans g2.grown); have O2 := hide ((Ob.new g1.val 28 [.int .i64 k, .int .i64 i, .int .i64 f, .int .i64 t, .slice QA r.length qc]).ext g2.grown); have m0 := O2.out.cell 0 rfl; have m4 := O2.out.cell 4 rfl; have P2 := hide (hpo.out.ext hX2.out); have p0 := P2.out.cell 0 rfl; haveI : In g1.val.heap.size g2.val := ⟨O2.out.lt⟩; haveI : In p g2.val := ⟨P2.out.lt⟩))
        refine wp_region_gw (by kernel_rfl) (by kernel_rfl) ?_
        repeat (go_big_quiet_step ((go_at_call 45; with_reducible exact quiet_gw (hfit.out _ (hX2.out.trans (GW.grown _))))))
        refine wpQuiet_nil ?_
        intro g3
        clear m4 p0
        go_wp2_with (first | (go_at_call 8; refine (hans.out _ (hX2.out.trans g3.grown)).mono ?_; rintro ee w4 ⟨v4, rfl, ho4, hX4⟩; have hX5 := hide ((hX2.out.trans g3.grown).trans hX4); have hlE := hide (plastE_c l0 _ v4 w4 _ ho4 hl0); have O4 := hide (O2.out.ext (g3.grown.trans hX4)); clear ho4 hX4) | (go_at_call 46; (with_reducible refine seq_gw hlE.out ?_); intro g6; have n0 := (O4.out.ext g6.grown).cell 0 rfl; haveI : In g1.val.heap.size g6.val := ⟨(O4.out.ext g6.grown).lt⟩) | (go_at_call 12; (with_reducible refine seq_gw (hcnt.out _ (hX5.out.trans g6.grown)) ?_); intro g7))
        go_returns
        exact ⟨rfl, hX5.out.trans g6.grown⟩
  · rw [if_neg hK]
    have hK1 : (K == 0) = false := by simp [hK]
    have hK2 : decide (K = 0) = false := decide_eq_false hK
    go_enter Try.func21, Try.ntmps21
    go_wp2_with (first | (go_at_call 43; (with_reducible refine seq_gw hlast.out ?_); intro g1) | (go_at_call 44; (with_reducible refine seq_gw (hchk.out _ (g1.grown.alloc _)) ?_); intro g2; have hX2 := hide ((g1.grown.alloc (mO k i f t (.slice QA r.length qc))).trans g2.grown); have O2 := hide ((Ob.new g1.val 28 [.int .i64 k, .int .i64 i, .int .i64 f, .int .i64 t, .slice QA r.length qc]).ext g2.grown); have m0 := O2.out.cell 0 rfl; have m4 := O2.out.cell 4 rfl; have P2 := hide (hpo.out.ext hX2.out); have p0 := P2.out.cell 0 rfl; haveI : In g1.val.heap.size g2.val := ⟨O2.out.lt⟩; haveI : In p g2.val := ⟨P2.out.lt⟩))
    go_returns
    exact ⟨rfl, hX2.out⟩
end
end Go.Proofs.Ytkfdkjjocdbolaa
set_option linter.unusedVariables false
set_option linter.unusedSimpArgs false
namespace Go.Proofs.Ytkfdkjjocdbolaa
open Go.RowKit
attribute [local go_sem] GW.cell GW.frozen In.eq_true In.le_true In.ne In.ne' In.ne_add In.ne_add' In.lt_add Upto.le_true Upto.le_add Upto.lt_add
theorem gist_len (o : Option Pb) (c : Int) : (gistP o c).length ≤ 2 := by cases o <;> simp [gistP, bgP]
theorem resI_zero {K : Int} {ins fit : Bool} {E : Int} {cnt : Nat} (h : resI K ins fit E cnt = 0) : E = 0 := by
  unfold resI at h
  by_cases hK : K = 0
  · rw [if_pos hK] at h
    split at h
    · cases h
    · by_cases hE : E = 0
      · exact hE
      · rw [if_neg hE] at h; exact h
  · rw [if_neg hK] at h; exact absurd h hK
/-- What is set, by the change. -/
theorem set_nx {L : List Pb} {s : StD} (h : PInv L s) (m : PM) (h0 : chkD s m = 0) (h3 : m.1.1 ≠ 3) (b : Nat) (v : Value) :
    (if s.1 < (chP L m).2.2.2.2 then insP (delP L m.1.2.1) (((m.1.2.1, match atP L m.1.2.1 with | some p => pSer p | none => s.2.length + 1), (chP L m).2.1, ((chP L m).2.2.2.1, (chP L m).2.2.2.2)), b, v) else delP L m.1.2.1) = nxP L s m b v
    ∧ max (s.2.length : Int) ((match atP L m.1.2.1 with | some p => pSer p | none => s.2.length + 1 : Nat) : Int) = ((tk s m).1.2.length : Int) ∧ (tk s m).1.1 = s.1 := by
  have hk := h.kn m.1.2.1
  rw [h.chk] at h0
  obtain ⟨z1, z2, z3, z4⟩ := chkO_zero h0
  unfold nxP tk chP
  simp only [if_neg h3]
  by_cases h1 : m.1.1 = 1
  · have hn : atP L m.1.2.1 = none := by simpa [knP] using z4 h1
    have hno := atP_none hn
    have hdl : delP L m.1.2.1 = L := List.filter_eq_self.2 fun y hy => by have := hno y hy; simp [kentP, same_key, this]
    unfold mkM at z1
    rw [h1] at z1
    have hb := mchk_one z1
    have hc := z3 (by omega)
    simp only [if_pos h1, hn, hdl]
    rw [if_pos (by omega)]
    refine ⟨by first | rfl | trivial, ?_, by first | rfl | trivial⟩
    rw [List.length_append, List.length_singleton]
    omega
  · simp only [if_neg h1]
    cases hp : atP L m.1.2.1 with
    | none =>
      exfalso
      unfold mkM at z1
      rcases mchk_kind z1 with e | e | e
      · exact h1 e
      · obtain ⟨_, he, -⟩ := z2 e; rw [hp] at he; cases he
      · exact h3 e
    | some p =>
      rw [hp] at hk
      obtain ⟨k1, k2, k3⟩ := h.known p (atP_some hp).1
      have hlt := (List.getElem?_eq_some_iff.1 k3).1
      rw [hk]
      simp only [Option.map_some]
      refine ⟨by first | rfl | trivial, ?_, by first | rfl | trivial⟩
      rw [List.length_set]
      omega
theorem len_nx {L : List Pb} {s : StD} {m : PM} {b : Nat} {v : Value} : (nxP L s m b v).length ≤ L.length + 1 := by
  have hi : ∀ (M : List Pb) (x : Pb), (insP M x).length = M.length + 1 := fun M x => by
    unfold insP
    rw [List.length_append, List.length_cons, List.length_take, List.length_drop]
    have := ld_le (fun y => befB y x) M
    unfold plN
    omega
  have hd : ∀ id, (delP L id).length ≤ L.length := fun id => List.length_filter_le _ _
  unfold nxP
  split
  · rw [List.length_drop]; omega
  · split
    · rw [hi]; omega
    · split
      · omega
      · split
        · rw [hi]; have := hd m.1.2.1; omega
        · have := hd m.1.2.1; omega
theorem row_nx {L : List Pb} {s : StD} {m : PM} {b : Nat} {v : Value} {y : Pb} (h : y ∈ nxP L s m b v) : y.1.2.1 = m.2 ∨ ∃ z ∈ L, y.1.2.1 = z.1.2.1 := by
  unfold nxP at h
  split at h
  · exact .inr ⟨y, List.mem_of_mem_drop h, rfl⟩
  · split at h
    · rcases mem_insP.1 h with rfl | h
      · exact .inl rfl
      · exact .inr ⟨y, h, rfl⟩
    · split at h
      · exact .inr ⟨y, h, rfl⟩
      · rename_i p hp
        split at h
        · rcases mem_insP.1 h with rfl | h
          · exact .inr ⟨p, (atP_some hp).1, rfl⟩
          · exact .inr ⟨y, (mem_delP.1 h).1, rfl⟩
        · exact .inr ⟨y, (mem_delP.1 h).1, rfl⟩
section
variable {base p : Nat} {sc : List Cl} {c ser : Int} {mb n : Nat} {L : List Pb}
/-- A store into an object that is not the past's. -/
theorem pz_set {w w' : World} {bc : Nat} {T : TypeId} {vs : List Value} (h : Pz w base p sc c ser mb n L) (o : Ob w bc T vs) (hF : Fr [bc] w w') (h1 : T ≠ 65) (h2 : T ≠ 90) (h3 : T ≠ 94) (h4 : T ≠ 58) (h5 : T ≠ 54) : Pz w' base p sc c ser mb n L := by
  obtain ⟨⟨sv, u, hP, hC⟩, hM, hR⟩ := h
  refine ⟨⟨sv, u, ⟨hP.ob.fr hF (by simp; exact fun e => Ob.ne o hP.ob h1 e.symm), own_stay hP.own hF (by intro b hb; rw [List.mem_singleton.1 hb]; exact o.nt h2), fun y hy => Ob.fr (hP.evs y hy) hF (by simp; exact fun e => Ob.ne o (hP.evs y hy) h3 e.symm)⟩, own_stay hC hF (by intro b hb; rw [List.mem_singleton.1 hb]; exact o.nt h4)⟩, pmv_fr hM hF (by simp; exact fun e => mv_ob hM o e.symm), fun y hy => (hR y hy).stay hF (by intro b hb; rw [List.mem_singleton.1 hb]; exact o.nt h5)⟩
end
/-- What a message's change is. -/
def chT (L : List Pb) (s : StD) (m : PM) (R : Int) : Ch := if R = 0 ∧ m.1.1 ≠ 3 then (tk s m).2 else zCh
theorem kq_fresh {w w1 w2 : World} {bc : Nat} (h : Kq w w1) (hF : Fr [bc] w1 w2) (hb : w.heap.size ≤ bc) : Kq w w2 := fun C T vs o h1 h2 => by
  have := o.lt
  exact (h C T vs o h1 h2).fr hF (by simp; omega)
theorem pz_more {w : World} {base p mb n : Nat} {sc : List Cl} {c ser : Int} {L : List Pb} (h : Pz w base p sc c ser mb n L) : Pz w base p sc c ser mb (n + 1) L := ⟨h.st, Mv.more h.map (Nat.le_succ n), h.rows⟩
def serP (o : Option Pb) (n : Nat) : Nat := match o with | some p => pSer p | none => n + 1
section
variable {base p mb n : Nat} {sc : List Cl} {L : List Pb} {s : StD} {T : List Ke}
set_option maxHeartbeats 16000000 in
set_option maxRecDepth 100000 in
theorem ptake_c (k i f t : Int) (r : List Vl) (rv : Value) (w : World) (h : Pz w base p sc s.1 s.2.length mb n L) (hI : PInv L s) (hT : InvF T s) (hin : inM ((k, i, f, t), r)) (hnum : ∀ y ∈ L, ∀ a ∈ y.1.2.1, inI a.2.1) (hL : L.length ≤ 8000) (hrv : Rw w [] rv r) (hbw : base ≤ w.heap.size) (hbm : base ≤ mb) (hbp : base ≤ p) (hnM : n < maxLen) (hsl : s.2.length ≤ 1000000) :
    Calls Try.prog 9 #[.pointer (some ⟨p, 0, none⟩), mg k i f t rv] w fun e w' => ∃ cv R, R = resI (mkM ((k, i, f, t), r)) (decide (k = 1)) (fitsS sc r) (chkD s ((k, i, f, t), r)) L.length ∧ e = .returned (.tuple #[.agg (chO cv (chT L s ((k, i, f, t), r) R)).toArray, .int .i64 R]) ∧ RwO w' cv (chT L s ((k, i, f, t), r) R).2.1
      ∧ (R ≠ 0 → Pz w' base p sc s.1 s.2.length mb n L) ∧ (R = 0 → ∃ b v, Pz w' base p sc (tk s ((k, i, f, t), r)).1.1 (tk s ((k, i, f, t), r)).1.2.length mb (n + 1) (nxP L s ((k, i, f, t), r) b v)) ∧ Kq w w' ∧ Below base w w' := by
  obtain ⟨QA, qc, hqv⟩ := rw_val hrv
  subst hqv
  obtain ⟨m, hm⟩ : ∃ m : PM, m = ((k, i, f, t), r) := ⟨_, rfl⟩
  rw [← hm]
  obtain ⟨W0, hW0⟩ : ∃ W0, W0 = (w.alloc (mO k i f t (.slice QA r.length qc))).alloc (.cells #[.int .i64 0, .slice none 0 0, .int .i64 0, .int .i64 0, .int .i64 0, .int .i64 0] 42) := ⟨_, rfl⟩
  have hX0 : Ext w W0 := by rw [hW0]; exact ((Ext.refl w).alloc _).alloc _
  obtain ⟨bt, hbt⟩ : ∃ bt, bt = w.heap.size := ⟨_, rfl⟩
  obtain ⟨bc, hbc⟩ : ∃ bc, bc = w.heap.size + 1 := ⟨_, rfl⟩
  have hOt : Hid (Ob W0 bt 28 [.int .i64 k, .int .i64 i, .int .i64 f, .int .i64 t, .slice QA r.length qc]) := by show Ob _ _ _ _; rw [hW0, hbt]; exact (Ob.new w _ [_, _, _, _, _]).ext ((Ext.refl _).alloc _)
  have hOc : Hid (Ob W0 bc 42 [.int .i64 0, .slice none 0 0, .int .i64 0, .int .i64 0, .int .i64 0, .int .i64 0]) := by
    show Ob _ _ _ _
    rw [hW0, hbc, show w.heap.size + 1 = (w.alloc (mO k i f t (.slice QA r.length qc))).heap.size by simp]
    exact Ob.new _ _ [_, _, _, _, _, _]
  have hbc0 : w.heap.size ≤ bc := by omega
  have hz0 := h.ext hX0
  have hgist := hide (fun w' (hX : Ext W0 w') => pgist_c i hin.1.2.1 w' (hz0.ext hX) (fun y hy => by
    obtain ⟨k1, k2, k3⟩ := hI.known y hy
    exact mayR8 (hT.evs _ (List.mem_of_getElem? k3)).2.2.2.1))
  have hgin : ∀ q ∈ gistP (atP L i) s.1, inM q := by
    have hc0 := hT.c0
    intro q hq
    unfold gistP at hq
    rcases List.mem_append.1 hq with hq | hq
    · cases hp : atP L i with
      | none => rw [hp] at hq; simp [bgP] at hq
      | some y =>
        rw [hp] at hq
        obtain rfl : q = ((1, pId y, y.1.2.2.1, y.1.2.2.2), y.1.2.1) := by simpa [bgP] using hq
        have hy := (atP_some hp).1
        obtain ⟨k1, k2, k3⟩ := hI.known y hy
        obtain ⟨w1, w2, w3, w4, w5, w6⟩ := hT.evs _ (List.mem_of_getElem? k3)
        have a1 : 0 ≤ y.1.2.2.1 := w1
        have a2 : y.1.2.2.1 < y.1.2.2.2 := w2
        have a3 : y.1.2.2.2 ≤ 1125899906842624 := w3
        have a5 : 1 ≤ pId y := w5
        have a6 : pId y ≤ 1099511627776 := w6
        refine ⟨(show inI 1 ∧ inI (pId y) ∧ inI y.1.2.2.1 ∧ inI y.1.2.2.2 by unfold inI; omega), hnum y hy⟩
    · rw [List.mem_singleton.1 hq]
      exact ⟨(show inI 3 ∧ inI 0 ∧ inI s.1 ∧ inI 0 by unfold inI; omega), by simp⟩
  have hgin2 : ∀ G : List Vm, pms G = gistP (atP L i) s.1 → ∀ q ∈ G ++ [((.slice QA r.length qc : Value), m)], inM q.2 := fun G hG q hq => by
    rcases List.mem_append.1 hq with hq | hq
    · exact hgin _ (by rw [← hG]; exact List.mem_map_of_mem hq)
    · rw [List.mem_singleton.1 hq, hm]; exact hin
  have hgl : ∀ G : List Vm, pms G = gistP (atP L i) s.1 → G.length ≤ 2 := fun G hG => by
    have h1 := congrArg List.length hG; have h2 := gist_len (atP L i) s.1; simp only [pms, List.length_map] at h1; omega
  obtain ⟨R, hR⟩ : ∃ R, R = resI (mkM m) (decide (k = 1)) (fitsS sc r) (chkD s m) L.length := ⟨_, rfl⟩
  have hmi : m.1.2.1 = i := by rw [hm]
  have hmk : m.1.1 = k := by rw [hm]
  have hrun := gist_run hI hT i
  have hch := gist_chk hI m
  rw [hmi] at hch
  have hres := hide (fun (G : List Vm) (v5 : Value) (w5 : World) (hX : Ext W0 w5) (hM : Mw w5 [] v5 (G ++ [((.slice QA r.length qc : Value), m)])) (hG : pms G = gistP (atP L i) s.1) => by
    have h1 := presult_c (base := base) (p := p) (sc := sc) (c := s.1) (ser := s.2.length) (mb := mb) (n := n) (L := L) G ((.slice QA r.length qc), m) v5 w5 (hz0.ext hX) hM (hgin2 G hG) (by have := hgl G hG; omega) (chkD s m) (by
      rw [show pms (G ++ [((.slice QA r.length qc : Value), m)]) = gistP (atP L i) s.1 ++ [m] by rw [← hG]; simp [pms], runE_last hrun m, hch]) (by omega)
    rw [show resI (mkM ((.slice QA r.length qc : Value), m).2) (decide (((.slice QA r.length qc : Value), m).2.1.1 = 1)) (fitsS sc ((.slice QA r.length qc : Value), m).2.2) (chkD s m) L.length = R by rw [hR]; simp only [hm]] at h1
    exact h1)
  obtain ⟨B0, hB0⟩ : ∃ B0, B0 = W0.heap.size := ⟨_, rfl⟩
  replace hB0 := hide hB0
  have hB0le := hide (Nat.le_refl W0.heap.size)
  have hmw : Hid (∀ (w2 : World) (v4 : Value) (G : List Vm) (v5 : Value) (w5 : World), OwnM w2 B0 v4 G → w5.ownsRow B0 28 5 v5 (G.length + 1) ((G.flatMap fun p => mc1 (p.1, p.2)) ++ [.int .i64 k, .int .i64 i, .int .i64 f, .int .i64 t, .slice QA r.length qc]) → w2.grownBy w5 v4.ownBlock → Ext W0 w5 → Mw w5 [] v5 (G ++ [((.slice QA r.length qc : Value), m)])) := by
    show ∀ _ _ _ _ _, _ → _ → _ → _ → _
    intro w2 v4 G v5 w5 hG ho hg hX
    have e1 : mc (G ++ [((.slice QA r.length qc : Value), m)]) = (G.flatMap fun p => mc1 (p.1, p.2)) ++ [.int .i64 k, .int .i64 i, .int .i64 f, .int .i64 t, .slice QA r.length qc] := by
      unfold mc
      rw [List.flatMap_append, hm]
      rfl
    refine ⟨by rw [e1, List.length_append]; exact Sl.own ho (by simp), fun q hq => ?_⟩
    rcases List.mem_append.1 hq with hq | hq
    · exact ((hG.2 q hq).stay (fr_grown hg) (own_nt hG.1 (by decide))).rw
    · rw [List.mem_singleton.1 hq, hm]; exact Sl.ext hrv (hX0.trans hX)
  rw [← hR]
  have hbth := hide hbt
  have hbch := hide hbc
  have hW0h := hide hW0
  have hz0h := hide hz0
  have hX0h := hide hX0
  have hbw0 : base ≤ W0.heap.size := by have := hX0.size; omega
  have hB00 : Hid (Below base w W0) := Below.mono hX0 hbw
  have b0 := hide (hOt.out.cell 0 rfl)
  have b1 := hide (hOt.out.cell 1 rfl)
  have b2 := hide (hOt.out.cell 2 rfl)
  have b3 := hide (hOt.out.cell 3 rfl)
  have b4 := hide (hOt.out.cell 4 rfl)
  have hpp := hide hz0
  replace hR := hide hR
  have hidL : ∀ y ∈ L, inI (pId y) := fun y hy => by
    obtain ⟨k1, k2, k3⟩ := hI.known y hy
    obtain ⟨w1, w2, w3, w4, w5, w6⟩ := hT.evs _ (List.mem_of_getElem? k3)
    have a5 : 1 ≤ pId y := w5
    have a6 : pId y ≤ 1099511627776 := w6
    unfold inI; omega
  by_cases hR0 : R = 0
  · subst hR0
    have hE0 : chkD s m = 0 := resI_zero hR.out.symm
    by_cases hk : k = 3
    · subst hk
      have hpass := hide (fun w' (hX : Ext W0 w') => ppass_c f w' (hz0.ext hX) hI.srt hI.ids hidL (by omega) (by have := hX.size; omega) hbm hbp)
      have htk : Hid ((tk s m).1 = (f, s.2)) := by
        show (tk s m).1 = (f, s.2)
        rw [hm]; unfold tk; rw [if_pos rfl]
      have hnx : Hid (∀ b v, nxP L s m b v = L.drop (ldN (fun y => decide (pTo y ≤ f)) L)) := by
        show ∀ _ _, _
        intro b v
        rw [hm]; unfold nxP; rw [if_pos rfl]
      have ez : Hid (chT L s m 0 = zCh) := by
        show chT L s m 0 = zCh
        exact if_neg (fun e => e.2 (by rw [hm]))
      clear h hI hT hin hnum hrv hW0 hX0 hz0 hgin hgin2 hbt hbc hrun hch hmk hmi hidL hE0
      replace hm := hide hm
      replace hgl := hide hgl
      haveI : In bt W0 := ⟨hOt.out.lt⟩
      haveI : In bc W0 := ⟨hOc.out.lt⟩
      go_enter Try.func9, Try.ntmps9
      go_wp2_with fail
      rw [← hbch.out, ← hbth.out, ← hW0h.out]
      refine wp_region_list_tail 6 [(.is ((.pointer (some ⟨p, 0, none⟩)))), (.is ((.pointer (some ⟨bt, 1, none⟩)))), (.is ((.int .i64 i))), (.st (fun v w => ∃ G, OwnM w B0 v G ∧ pms G = gistP (atP L i) s.1) (fun v w w' ⟨G, h1, h2⟩ k => ⟨G, h1.ext k, h2⟩)), (.is ((mg 3 i f t (.slice QA r.length qc)))), (.st (fun v w => ∃ xb, v = .slice (some ⟨xb, 0, none⟩) 1 1 ∧ Ob w xb 28 [.int .i64 3, .int .i64 i, .int .i64 f, .int .i64 t, .slice QA r.length qc]) (fun v w w' ⟨xb, h1, h2⟩ k => ⟨xb, h1, h2.ext k⟩))] (by kernel_rfl) (by kernel_rfl) (by kernel_rfl) (by kernel_rfl) (by kernel_rfl) (by kernel_rfl) (by kernel_rfl) ?_ ?_
      · refine ⟨?_, ?_, ?_, ?_, ?_, ?_, trivial⟩
        · intro b w' h hE
          have f0 : b.tmps.getD 0 undef = (.pointer (some ⟨p, 0, none⟩)) := hE 0 (of_decide_eq_true (by kernel_rfl))
          exact good_move (wanted_none rfl) rfl f0
        · intro b w' h hE
          have f3 : b.tmps.getD 3 undef = (.pointer (some ⟨bt, 0, none⟩)) := hE 3 (of_decide_eq_true (by kernel_rfl))
          exact good_field (wanted_none rfl) rfl f3 (by simp [go_sem]) rfl
        · intro b w' h hE
          have f13 : b.tmps.getD 13 undef = (.pointer (some ⟨bt, 1, none⟩)) := h.dep 1 _ 13 (by kernel_rfl) rfl rfl
          have c0 := cell_later h.ext b1.out
          exact good_load (wanted_none rfl) rfl f13 (by simp [go_sem, c0]) rfl
        · intro b w' h hE
          have f12 : b.tmps.getD 12 undef = (.pointer (some ⟨p, 0, none⟩)) := h.dep 0 _ 12 (by kernel_rfl) rfl rfl
          have g12 : b.tmps[12]?.getD undef = (.pointer (some ⟨p, 0, none⟩)) := by rw [← Array.getD_eq_getD_getElem?]; exact f12
          have f14 : b.tmps.getD 14 undef = (.int .i64 i) := h.dep 2 _ 14 (by kernel_rfl) rfl rfl
          have g14 : b.tmps[14]?.getD undef = (.int .i64 i) := by rw [← Array.getD_eq_getD_getElem?]; exact f14
          refine good_call (wanted_none rfl) rfl (enters Try.func20 (by kernel_rfl) rfl) ?_
          rw [show (#[.tmp 12, .tmp 14] : Array Operand).map b.eval = #[.pointer (some ⟨p, 0, none⟩), .int .i64 i] by simp [Act.eval, g12, g14]]
          exact (hgist.out w' h.ext).mono fun e w1 ⟨v1, G1, he, h1, h2, h3⟩ => ⟨v1, he, ⟨G1, ⟨own_base h1.1 (by have := h.ext.size; rw [hB0.out]; exact Nat.le_trans hB0le.out this), h1.2⟩, h2⟩, h3⟩
        · intro b w' h hE
          have f3 : b.tmps.getD 3 undef = (.pointer (some ⟨bt, 0, none⟩)) := hE 3 (of_decide_eq_true (by kernel_rfl))
          have c0 := cell_later h.ext b0.out
          have c1 := cell_later h.ext b1.out
          have c2 := cell_later h.ext b2.out
          have c3 := cell_later h.ext b3.out
          have c4 := cell_later h.ext b4.out
          exact good_load (wanted_none rfl) rfl f3 (by simp [go_sem, c0, c1, c2, c3, c4]) rfl
        · intro b w' h hE
          have f16 : b.tmps.getD 16 undef = (mg 3 i f t (.slice QA r.length qc)) := h.dep 4 _ 16 (by kernel_rfl) rfl rfl
          have g16 : b.tmps[16]?.getD undef = (mg 3 i f t (.slice QA r.length qc)) := by rw [← Array.getD_eq_getD_getElem?]; exact f16
          have hb1 : (Instr.buildSlice 22 1 #[(0, mg 3 i f t (.slice QA r.length qc))]).run Try.prog w' = .ok (.slice (some ⟨w'.heap.size, 0, none⟩) 1 1) (w'.alloc (mO 3 i f t (.slice QA r.length qc))) := by simp [go_sem]
          refine good_grow (w' := w'.alloc (mO 3 i f t (.slice QA r.length qc))) (v := .slice (some ⟨w'.heap.size, 0, none⟩) 1 1) (wanted_none rfl) ?_ ⟨_, rfl, Ob.new w' _ [_, _, _, _, _]⟩ ((Ext.refl _).alloc _)
          simp [execOp, Act.eval, g16, hb1, Sem.run_bind, Sem.run_pure, Result.andThen_ok]
      · intro b w2 hX2 hd hz he' hf
        have e12 : b.tmps.getD 12 undef = (.pointer (some ⟨p, 0, none⟩)) := hf 0 _ 12 (by omega) rfl rfl
        have e13 : b.tmps.getD 13 undef = (.pointer (some ⟨bt, 1, none⟩)) := hf 1 _ 13 (by omega) rfl rfl
        have e14 : b.tmps.getD 14 undef = (.int .i64 i) := hf 2 _ 14 (by omega) rfl rfl
        have f15 : ∃ G, OwnM w2 B0 (b.tmps.getD 15 undef) G ∧ pms G = gistP (atP L i) s.1 := hf 3 _ 15 (by omega) rfl rfl
        have e16 : b.tmps.getD 16 undef = (mg 3 i f t (.slice QA r.length qc)) := hf 4 _ 16 (by omega) rfl rfl
        have f17 : ∃ xb, (b.tmps.getD 17 undef) = .slice (some ⟨xb, 0, none⟩) 1 1 ∧ Ob w2 xb 28 [.int .i64 3, .int .i64 i, .int .i64 f, .int .i64 t, .slice QA r.length qc] := hf 5 _ 17 (by omega) rfl rfl
        have e := frame_puts hd hz he'
        obtain ⟨X, hXx⟩ : ∃ X : Nat → Value, ∀ d, b.tmps.getD d undef = X d := ⟨_, fun _ => rfl⟩
        rw [hXx] at e12 e13 e14 e16 f15 f17
        obtain ⟨G, hG, hGp⟩ := f15
        obtain ⟨A15, c15, q15⟩ := OwnX.form hG
        rw [q15] at hG
        obtain ⟨xb, q17, hxb⟩ := f17
        rw [show dstsOf _ = [12, 13, 14, 15, 16, 17] from rfl] at e
        simp only [List.foldl_cons, List.foldl_nil, hXx, Act.put, List.setIfInBounds_toArray, List.set_cons_succ, List.set_cons_zero] at e
        rw [e12, e13, e14, e16, q15, q17] at e
        clear hf he' hz hd hXx e12 e13 e14 e16 q15 q17
        subst e
        have hzw := hX2.size
        simp only [List.drop_succ_cons, List.drop_zero]
        have hX9 := hide (show Ext W0 w2 from hX2)
        replace hG := hide hG
        replace hGp := hide hGp
        replace hxb := hide hxb
        have hGl := hgl.out G hGp.out
        clear hX2
        go_wp2_with (first | (at_builtin; refine wpl_app tMsg rfl (.tmp 15) (.tmp 17) rfl rfl hG.out.1 rfl (src_msg _ _ _ _ _ _ _ rfl hxb.out) (by unfold maxLen; omega) (by omega) (by have := hX9.out.size; rw [hB0.out]; omega) ?_; intro v5 w5 ho5 hg5 hob5; replace hg5 : World.grownBy _ w5 (Value.slice A15 G.length c15).ownBlock := hg5; have hX5 := hide (ext_fr hX9.out (fr_grown hg5) (fun b hb => by have h1 := (ob_ge hG.out.1 b hb).1; rw [hB0.out] at h1; exact h1)); have hM5 := hide (hmw.out _ _ G v5 w5 hG.out ho5 hg5 hX5.out); obtain ⟨A5, c5, e5⟩ := own_form ho5; subst e5; clear ho5 hg5 hob5; have hrs := hide (hres.out G _ w5 hX5.out hM5.out hGp.out)) | (go_at_call 21; (with_reducible refine seq_gw hrs.out ?_); intro g8; have hX8 := hide (hX5.out.trans g8.grown); have T8 := hide (hOt.out.ext hX8.out); have t0 := T8.out.cell 0 rfl; have t1 := T8.out.cell 1 rfl; have t2 := T8.out.cell 2 rfl; have C8 := hide (hOc.out.ext hX8.out); have x0 := C8.out.cell 0 rfl; have z0 := C8.out.free 0; have x1 := C8.out.cell 1 rfl; have z1 := C8.out.free 1; have x2 := C8.out.cell 2 rfl; have z2 := C8.out.free 2; have x3 := C8.out.cell 3 rfl; have z3 := C8.out.free 3; have x4 := C8.out.cell 4 rfl; have z4 := C8.out.free 4; have x5 := C8.out.cell 5 rfl; have z5 := C8.out.free 5; haveI : In bt g8.val := ⟨T8.out.lt⟩; haveI : In bc g8.val := ⟨C8.out.lt⟩) | (go_at_call 22; refine (hpass.out _ hX8.out).mono ?_; rintro ee w9 ⟨rfl, hP9, hK9, hB9⟩; have C9 := hide (hK9 _ _ _ C8.out (by decide) (by decide)); have y0 := C9.out.cell 0 rfl; have yz0 := C9.out.free 0; have y1 := C9.out.cell 1 rfl; have yz1 := C9.out.free 1; have y2 := C9.out.cell 2 rfl; have yz2 := C9.out.free 2; have y3 := C9.out.cell 3 rfl; have yz3 := C9.out.free 3; have y4 := C9.out.cell 4 rfl; have yz4 := C9.out.free 4; have y5 := C9.out.cell 5 rfl; have yz5 := C9.out.free 5; haveI : In bc w9 := ⟨C9.out.lt⟩; replace hP9 := hide hP9; replace hK9 := hide hK9; replace hB9 := hide hB9))
        refine bodyPost_ret (by simp [results, Try.results9, go_sem, y0, y1, y2, y3, y4, y5]; try rfl) rfl ?_
        have hF := ((((((Fr.refl [bc] w9).setCell ⟨bc, 0, none⟩ (.int .i64 0) (.inl (by simp))).setCell ⟨bc, 1, none⟩ (.slice none 0 0) (.inl (by simp))).setCell ⟨bc, 2, none⟩ (.int .i64 0) (.inl (by simp))).setCell ⟨bc, 3, none⟩ (.int .i64 0) (.inl (by simp))).setCell ⟨bc, 4, none⟩ (.int .i64 0) (.inl (by simp))).setCell ⟨bc, 5, none⟩ (.int .i64 0) (.inl (by simp))
        have hk9 := kq_fresh ((kq_ext (hX0h.out.trans hX8.out)).trans hK9.out) hF hbc0
        have hb8 := (Below.mono (hX0h.out.trans hX8.out) hbw).trans hB9.out
        have hb9 := hb8.trans (below_fr hF (by have := hb8.size; omega) (by simp; omega))
        exact ⟨.slice none 0 0, 0, rfl, by rw [ez.out]; rfl, by rw [ez.out]; exact World.ownsRow_nil _ _ _ _, fun e => absurd rfl e, fun _ => ⟨0, .slice none 0 0, by rw [htk.out, hnx.out 0 (.slice none 0 0)]; exact pz_more (pz_set hP9.out C9.out hF (by decide) (by decide) (by decide) (by decide) (by decide))⟩, hk9, hb9⟩
    · have hk1 : (k == 3) = false := by simp [hk]
      have hk2 : decide (k = 3) = false := decide_eq_false hk
      have hk' : m.1.1 ≠ 3 := by rw [hmk]; exact hk
      have hs0 := set_nx hI m hE0 hk'
      have hts := tk_serial hI m hE0 hk'
      have hgc := gist_chg hI m hE0 hk'
      rw [hmi] at hgc hts hs0
      obtain ⟨T2, hT2⟩ := runS_inv (gistP (atP L i) s.1)
      rw [hrun] at hT2
      have h8 := chg_r8 hT2 m
      rw [hgc] at h8
      replace hts : (tk s m).2 = (serP (atP L i) s.2.length, (chP L m).2) := hts
      replace hs0 : ∀ (b : Nat) (v : Value), (if s.1 < (chP L m).2.2.2.2 then insP (delP L i) (((i, serP (atP L i) s.2.length), (chP L m).2.1, ((chP L m).2.2.2.1, (chP L m).2.2.2.2)), b, v) else delP L i) = nxP L s m b v ∧ max (s.2.length : Int) (serP (atP L i) s.2.length : Int) = ((tk s m).1.2.length : Int) ∧ (tk s m).1.1 = s.1 := hs0
      obtain ⟨SN, hSN⟩ : ∃ SN : Nat, SN = serP (atP L i) s.2.length := ⟨_, rfl⟩
      rw [← hSN] at hts
      simp only [← hSN] at hs0
      have hsI : (match atP L i with | some y => (pSer y : Int) | none => (s.2.length : Int) + 1) = (SN : Int) := by
        rw [hSN]
        unfold serP
        cases atP L i <;> simp
      have hser : Hid (∀ w', Ext W0 w' → Calls Try.prog 25 #[.pointer (some ⟨p, 0, none⟩), .int .i64 i] w' fun e w2 => e = .returned (.int .i64 (SN : Int)) ∧ Ext w' w2) := by
        show ∀ _, _ → _
        intro w' hX
        refine (pserialOf_c i hin.1.2.1 w' (hz0.ext hX) ⟨by omega, by omega⟩).mono ?_
        rintro e w2 ⟨rfl, hx⟩
        exact ⟨congrArg (fun z => Ending.returned (Value.int .i64 z)) hsI, hx⟩
      obtain ⟨⟨C1, Cr, ⟨Co1, Co2⟩, Cn1, Cn2⟩, hCe⟩ : ∃ C, C = chP L m := ⟨_, rfl⟩
      rw [← hCe] at hs0 hts hgc h8
      simp only at hs0 hts h8
      have hchg : Hid (∀ (G : List Vm) (v5 : Value) (w' : World), Mw w' [] v5 (G ++ [((.slice QA r.length qc : Value), m)]) → pms G = gistP (atP L i) s.1 → Calls Try.prog 24 #[v5] w' fun e w2 => ∃ sv M0 cv, e = .returned sv ∧ OwnCh w2 w'.heap.size sv (M0 ++ [(cv, ((C1, Cr, (Co1, Co2), Cn1, Cn2) : Ch))]) ∧ M0.length ≤ 100000 ∧ Ext w' w2) := by
        show ∀ _ _ _, _ → _ → _
        intro G v5 w' hM hG
        have hGl := hgl G hG
        refine (changes_c (G ++ [((.slice QA r.length qc : Value), m)]) v5 w' hM (hgin2 G hG) (by simp; omega)).mono ?_
        rintro e w2 ⟨sv, M, rfl, hO, hMs, hX⟩
        have hpm : pms (G ++ [((.slice QA r.length qc : Value), m)]) = gistP (atP L i) s.1 ++ [m] := by rw [← hG]; simp [pms]
        rw [hpm] at hMs
        have hl := runC_last hrun m (by rw [hch]; exact hE0) hk'
        rw [← hMs, hgc] at hl
        have hln := runC_len (gistP (atP L i) s.1 ++ [m]) (0, [])
        rw [← hMs] at hln
        have hgl2 := gist_len (atP L i) s.1
        simp only [List.length_map, List.length_append, List.length_singleton] at hln
        obtain ⟨l0, hl0⟩ := List.getLast?_eq_some_iff.1 hl
        obtain ⟨M0, M1, rfl, h01, h02⟩ := List.map_eq_append_iff.1 hl0
        obtain ⟨q, rfl, hq⟩ := List.map_eq_singleton_iff.1 h02
        obtain ⟨cv, qc2⟩ := q
        simp only at hq
        subst hq
        exact ⟨sv, M0, cv, rfl, hO, by simp at hln; omega, hX⟩
      have hset := hide (fun w' CA cc (hz : Pz w' base p sc s.1 s.2.length mb n L) (hr : RwO w' (.slice CA Cr.length cc) Cr) (hb : base ≤ w'.heap.size) => pset_c i SN Cr Co1 Co2 Cn1 Cn2 (.slice CA Cr.length cc) w' hz hI.srt hI.ids hin.1.2.1 hL hr (by omega) hb hbm hbp hnM)
      have ez : Hid (chT L s m 0 = (SN, Cr, (Co1, Co2), Cn1, Cn2)) := by
        show chT L s m 0 = (SN, Cr, (Co1, Co2), Cn1, Cn2)
        unfold chT
        rw [if_pos ⟨rfl, hk'⟩, hts]
      have hfin : Hid (∀ b v w', Pz w' base p sc s.1 (max (s.2.length : Int) SN) mb (n + 1) (if s.1 < Cn2 then insP (delP L i) (((i, SN), Cr, (Cn1, Cn2)), b, v) else delP L i) → Pz w' base p sc (tk s m).1.1 (tk s m).1.2.length mb (n + 1) (nxP L s m b v)) := by
        show ∀ _ _ _, _ → _
        intro b v w' hz
        obtain ⟨e1, e2, e3⟩ := hs0 b v
        rw [e1, e2] at hz
        rw [e3]
        exact hz
      clear h hI hT hin hnum hrv hW0 hX0 hz0 hgin hgin2 hbt hbc hrun hch hmk hmi hidL hE0 hs0 hts hgc hT2 h8 hCe hk' hsI hSN
      replace hm := hide hm
      replace hgl := hide hgl
      haveI : In bt W0 := ⟨hOt.out.lt⟩
      haveI : In bc W0 := ⟨hOc.out.lt⟩
      go_enter Try.func9, Try.ntmps9
      go_wp2_with fail
      rw [← hbch.out, ← hbth.out, ← hW0h.out]
      refine wp_region_list_tail 6 [(.is ((.pointer (some ⟨p, 0, none⟩)))), (.is ((.pointer (some ⟨bt, 1, none⟩)))), (.is ((.int .i64 i))), (.st (fun v w => ∃ G, OwnM w B0 v G ∧ pms G = gistP (atP L i) s.1) (fun v w w' ⟨G, h1, h2⟩ k => ⟨G, h1.ext k, h2⟩)), (.is ((mg k i f t (.slice QA r.length qc)))), (.st (fun v w => ∃ xb, v = .slice (some ⟨xb, 0, none⟩) 1 1 ∧ Ob w xb 28 [.int .i64 k, .int .i64 i, .int .i64 f, .int .i64 t, .slice QA r.length qc]) (fun v w w' ⟨xb, h1, h2⟩ k => ⟨xb, h1, h2.ext k⟩))] (by kernel_rfl) (by kernel_rfl) (by kernel_rfl) (by kernel_rfl) (by kernel_rfl) (by kernel_rfl) (by kernel_rfl) ?_ ?_
      · refine ⟨?_, ?_, ?_, ?_, ?_, ?_, trivial⟩
        · intro b w' h hE
          have f0 : b.tmps.getD 0 undef = (.pointer (some ⟨p, 0, none⟩)) := hE 0 (of_decide_eq_true (by kernel_rfl))
          exact good_move (wanted_none rfl) rfl f0
        · intro b w' h hE
          have f3 : b.tmps.getD 3 undef = (.pointer (some ⟨bt, 0, none⟩)) := hE 3 (of_decide_eq_true (by kernel_rfl))
          exact good_field (wanted_none rfl) rfl f3 (by simp [go_sem]) rfl
        · intro b w' h hE
          have f13 : b.tmps.getD 13 undef = (.pointer (some ⟨bt, 1, none⟩)) := h.dep 1 _ 13 (by kernel_rfl) rfl rfl
          have c0 := cell_later h.ext b1.out
          exact good_load (wanted_none rfl) rfl f13 (by simp [go_sem, c0]) rfl
        · intro b w' h hE
          have f12 : b.tmps.getD 12 undef = (.pointer (some ⟨p, 0, none⟩)) := h.dep 0 _ 12 (by kernel_rfl) rfl rfl
          have g12 : b.tmps[12]?.getD undef = (.pointer (some ⟨p, 0, none⟩)) := by rw [← Array.getD_eq_getD_getElem?]; exact f12
          have f14 : b.tmps.getD 14 undef = (.int .i64 i) := h.dep 2 _ 14 (by kernel_rfl) rfl rfl
          have g14 : b.tmps[14]?.getD undef = (.int .i64 i) := by rw [← Array.getD_eq_getD_getElem?]; exact f14
          refine good_call (wanted_none rfl) rfl (enters Try.func20 (by kernel_rfl) rfl) ?_
          rw [show (#[.tmp 12, .tmp 14] : Array Operand).map b.eval = #[.pointer (some ⟨p, 0, none⟩), .int .i64 i] by simp [Act.eval, g12, g14]]
          exact (hgist.out w' h.ext).mono fun e w1 ⟨v1, G1, he, h1, h2, h3⟩ => ⟨v1, he, ⟨G1, ⟨own_base h1.1 (by have := h.ext.size; rw [hB0.out]; exact Nat.le_trans hB0le.out this), h1.2⟩, h2⟩, h3⟩
        · intro b w' h hE
          have f3 : b.tmps.getD 3 undef = (.pointer (some ⟨bt, 0, none⟩)) := hE 3 (of_decide_eq_true (by kernel_rfl))
          have c0 := cell_later h.ext b0.out
          have c1 := cell_later h.ext b1.out
          have c2 := cell_later h.ext b2.out
          have c3 := cell_later h.ext b3.out
          have c4 := cell_later h.ext b4.out
          exact good_load (wanted_none rfl) rfl f3 (by simp [go_sem, c0, c1, c2, c3, c4]) rfl
        · intro b w' h hE
          have f16 : b.tmps.getD 16 undef = (mg k i f t (.slice QA r.length qc)) := h.dep 4 _ 16 (by kernel_rfl) rfl rfl
          have g16 : b.tmps[16]?.getD undef = (mg k i f t (.slice QA r.length qc)) := by rw [← Array.getD_eq_getD_getElem?]; exact f16
          have hb1 : (Instr.buildSlice 22 1 #[(0, mg k i f t (.slice QA r.length qc))]).run Try.prog w' = .ok (.slice (some ⟨w'.heap.size, 0, none⟩) 1 1) (w'.alloc (mO k i f t (.slice QA r.length qc))) := by simp [go_sem]
          refine good_grow (w' := w'.alloc (mO k i f t (.slice QA r.length qc))) (v := .slice (some ⟨w'.heap.size, 0, none⟩) 1 1) (wanted_none rfl) ?_ ⟨_, rfl, Ob.new w' _ [_, _, _, _, _]⟩ ((Ext.refl _).alloc _)
          simp [execOp, Act.eval, g16, hb1, Sem.run_bind, Sem.run_pure, Result.andThen_ok]
      · intro b w2 hX2 hd hz he' hf
        have e12 : b.tmps.getD 12 undef = (.pointer (some ⟨p, 0, none⟩)) := hf 0 _ 12 (by omega) rfl rfl
        have e13 : b.tmps.getD 13 undef = (.pointer (some ⟨bt, 1, none⟩)) := hf 1 _ 13 (by omega) rfl rfl
        have e14 : b.tmps.getD 14 undef = (.int .i64 i) := hf 2 _ 14 (by omega) rfl rfl
        have f15 : ∃ G, OwnM w2 B0 (b.tmps.getD 15 undef) G ∧ pms G = gistP (atP L i) s.1 := hf 3 _ 15 (by omega) rfl rfl
        have e16 : b.tmps.getD 16 undef = (mg k i f t (.slice QA r.length qc)) := hf 4 _ 16 (by omega) rfl rfl
        have f17 : ∃ xb, (b.tmps.getD 17 undef) = .slice (some ⟨xb, 0, none⟩) 1 1 ∧ Ob w2 xb 28 [.int .i64 k, .int .i64 i, .int .i64 f, .int .i64 t, .slice QA r.length qc] := hf 5 _ 17 (by omega) rfl rfl
        have e := frame_puts hd hz he'
        obtain ⟨X, hXx⟩ : ∃ X : Nat → Value, ∀ d, b.tmps.getD d undef = X d := ⟨_, fun _ => rfl⟩
        rw [hXx] at e12 e13 e14 e16 f15 f17
        obtain ⟨G, hG, hGp⟩ := f15
        obtain ⟨A15, c15, q15⟩ := OwnX.form hG
        rw [q15] at hG
        obtain ⟨xb, q17, hxb⟩ := f17
        rw [show dstsOf _ = [12, 13, 14, 15, 16, 17] from rfl] at e
        simp only [List.foldl_cons, List.foldl_nil, hXx, Act.put, List.setIfInBounds_toArray, List.set_cons_succ, List.set_cons_zero] at e
        rw [e12, e13, e14, e16, q15, q17] at e
        clear hf he' hz hd hXx e12 e13 e14 e16 q15 q17
        subst e
        have hzw := hX2.size
        simp only [List.drop_succ_cons, List.drop_zero]
        have hX9 := hide (show Ext W0 w2 from hX2)
        replace hG := hide hG
        replace hGp := hide hGp
        replace hxb := hide hxb
        have hGl := hgl.out G hGp.out
        clear hX2
        go_wp2_with (first | (at_builtin; refine wpl_app tMsg rfl (.tmp 15) (.tmp 17) rfl rfl hG.out.1 rfl (src_msg _ _ _ _ _ _ _ rfl hxb.out) (by unfold maxLen; omega) (by omega) (by have := hX9.out.size; rw [hB0.out]; omega) ?_; intro v5 w5 ho5 hg5 hob5; replace hg5 : World.grownBy _ w5 (Value.slice A15 G.length c15).ownBlock := hg5; have hX5 := hide (ext_fr hX9.out (fr_grown hg5) (fun b hb => by have h1 := (ob_ge hG.out.1 b hb).1; rw [hB0.out] at h1; exact h1)); have hM5 := hide (hmw.out _ _ G v5 w5 hG.out ho5 hg5 hX5.out); obtain ⟨A5, c5, e5⟩ := own_form ho5; subst e5; clear ho5 hg5 hob5; have hrs := hide (hres.out G _ w5 hX5.out hM5.out hGp.out)) | (go_at_call 21; (with_reducible refine seq_gw hrs.out ?_); intro g8; have hX8 := hide (hX5.out.trans g8.grown); have T8 := hide (hOt.out.ext hX8.out); have t0 := T8.out.cell 0 rfl; have t1 := T8.out.cell 1 rfl; have t2 := T8.out.cell 2 rfl; have C8 := hide (hOc.out.ext hX8.out); have x0 := C8.out.cell 0 rfl; have z0 := C8.out.free 0; have x1 := C8.out.cell 1 rfl; have z1 := C8.out.free 1; have x2 := C8.out.cell 2 rfl; have z2 := C8.out.free 2; have x3 := C8.out.cell 3 rfl; have z3 := C8.out.free 3; have x4 := C8.out.cell 4 rfl; have z4 := C8.out.free 4; have x5 := C8.out.cell 5 rfl; have z5 := C8.out.free 5; haveI : In bt g8.val := ⟨T8.out.lt⟩; haveI : In bc g8.val := ⟨C8.out.lt⟩) | (go_at_call 24; refine (hchg.out G _ g8.val (hM5.out.ext g8.grown) hGp.out).mono ?_; rintro ee w9 ⟨v9, M0, cv, rfl, hO9, hM0, hX9b⟩; have hX10 := hide (hX8.out.trans hX9b); have hl9 := plastC_c M0 _ v9 w9 _ hO9 hM0; have hr9 := hO9.2 _ (List.mem_append_right _ (List.mem_singleton.2 rfl)); obtain ⟨CA, cc, ecv⟩ := own_form hr9; simp only at ecv; subst ecv; replace hr9 := hide (show RwO w9 (.slice CA Cr.length cc) Cr from hr9); clear hX9b; obtain ⟨A9, c9, e9⟩ := OwnX.form hO9; (rw [List.length_append, List.length_singleton] at e9); subst e9; replace hl9 : Hid (Calls Try.prog 23 #[.slice A9 (M0.length + 1) c9] w9 fun e w' => e = .returned (.agg #[.int .i64 (C1 : Nat), .slice CA Cr.length cc, .int .i64 Co1, .int .i64 Co2, .int .i64 Cn1, .int .i64 Cn2]) ∧ Ext w9 w') := hl9; clear hO9) | (go_at_call 23; (with_reducible refine seq_gw hl9.out ?_); intro g10; have T10 := hide (hOt.out.ext (hX10.out.trans g10.grown)); have vv1 := T10.out.cell 1 rfl; haveI : In bt g10.val := ⟨T10.out.lt⟩) | (go_at_call 25; (with_reducible refine seq_gw (hser.out _ ((hX10.out.trans g10.grown).alloc _)) ?_); intro g12; have O8 := hide ((Ob.new g10.val 42 [.int .i64 (C1 : Nat), .slice CA Cr.length cc, .int .i64 Co1, .int .i64 Co2, .int .i64 Cn1, .int .i64 Cn2]).ext g12.grown); have hX12 := hide (((hX10.out.trans g10.grown).alloc (.cells #[.int .i64 (C1 : Nat), .slice CA Cr.length cc, .int .i64 Co1, .int .i64 Co2, .int .i64 Cn1, .int .i64 Cn2] 42)).trans g12.grown); have o0 := O8.out.cell 0 rfl; have oz0 := O8.out.free 0; have o1 := O8.out.cell 1 rfl; have oz1 := O8.out.free 1; have o2 := O8.out.cell 2 rfl; have oz2 := O8.out.free 2; have o3 := O8.out.cell 3 rfl; have oz3 := O8.out.free 3; have o4 := O8.out.cell 4 rfl; have oz4 := O8.out.free 4; have o5 := O8.out.cell 5 rfl; have oz5 := O8.out.free 5; haveI : In g10.val.heap.size g12.val := ⟨O8.out.lt⟩; have T12 := hide (hOt.out.ext hX12.out); have u1 := T12.out.cell 1 rfl; haveI : In bt g12.val := ⟨T12.out.lt⟩; have hr12 := hide (hr9.out.ext (g10.grown.trans (((Ext.refl _).alloc (.cells #[.int .i64 (C1 : Nat), .slice CA Cr.length cc, .int .i64 Co1, .int .i64 Co2, .int .i64 Cn1, .int .i64 Cn2] 42)).trans g12.grown))); have hb8 : bc < g10.val.heap.size := Nat.lt_of_lt_of_le hOc.out.lt (hX10.out.trans g10.grown).size; have hb8t : bt < g10.val.heap.size := Nat.lt_of_lt_of_le hOt.out.lt (hX10.out.trans g10.grown).size; have hne8 : bt ≠ g10.val.heap.size := by omega) | (go_at_call 26; have hF13 : Fr [g10.val.heap.size] g12.val (g12.val.setCell ⟨g10.val.heap.size, 0, none⟩ (.int .i64 (SN : Int))) := (Fr.refl _ _).setCell _ _ (.inl (by simp)); have hs13 := hF13.size; have hX12s := hX12.out.size; refine (hset.out _ CA cc (pz_set (hz0h.out.ext hX12.out) O8.out hF13 (by decide) (by decide) (by decide) (by decide) (by decide)) (hr12.out.stay hF13 (by intro b hb; rw [List.mem_singleton.1 hb]; exact O8.out.nt (by decide))) (by omega)).mono ?_; rintro ee w14 ⟨rfl, b14, v14, hP14, hK14, hB14⟩; have hX13 := hide (ext_fr ((hX0h.out.trans hX10.out).trans g10.grown) (Fr.refl [] _) (by simp)); have O14 := hide (hK14 _ _ _ (O8.out.set 0 (.int .i64 (SN : Int))) (by decide) (by decide)); have C14 := hide (hK14 _ _ _ ((hOc.out.ext hX12.out).fr hF13 (by simp; omega)) (by decide) (by decide)); have hr14 := hide (own_kq (hr12.out.stay hF13 (by intro b hb; rw [List.mem_singleton.1 hb]; exact O8.out.nt (by decide))) hK14 (by decide) (by decide)); have hXw := hide (ext_fr (hX0h.out.trans (hX10.out.trans g10.grown)) ((Fr.of_ext (S := [g10.val.heap.size]) (((Ext.refl g10.val).alloc (.cells #[.int .i64 (C1 : Nat), .slice CA Cr.length cc, .int .i64 Co1, .int .i64 Co2, .int .i64 Cn1, .int .i64 Cn2] 42)).trans g12.grown)).trans hF13) (by intro x hx; simp at hx; have := (hX0h.out.trans (hX10.out.trans g10.grown)).size; omega)); replace hP14 := hide hP14; replace hK14 := hide hK14; replace hB14 := hide hB14; have p0 := O14.out.cell 0 rfl; have pz0 := O14.out.free 0; have p1 := O14.out.cell 1 rfl; have pz1 := O14.out.free 1; have p2 := O14.out.cell 2 rfl; have pz2 := O14.out.free 2; have p3 := O14.out.cell 3 rfl; have pz3 := O14.out.free 3; have p4 := O14.out.cell 4 rfl; have pz4 := O14.out.free 4; have p5 := O14.out.cell 5 rfl; have pz5 := O14.out.free 5; have y0 := C14.out.cell 0 rfl; have yz0 := C14.out.free 0; have y1 := C14.out.cell 1 rfl; have yz1 := C14.out.free 1; have y2 := C14.out.cell 2 rfl; have yz2 := C14.out.free 2; have y3 := C14.out.cell 3 rfl; have yz3 := C14.out.free 3; have y4 := C14.out.cell 4 rfl; have yz4 := C14.out.free 4; have y5 := C14.out.cell 5 rfl; have yz5 := C14.out.free 5; haveI : In g10.val.heap.size w14 := ⟨O14.out.lt⟩; haveI : In bc w14 := ⟨C14.out.lt⟩; clear hX13))
        refine bodyPost_ret (by simp [results, Try.results9, go_sem, y0, y1, y2, y3, y4, y5]; try rfl) rfl ?_
        have hF := ((((((Fr.refl [bc] w14).setCell ⟨bc, 0, none⟩ (.int .i64 (SN : Int)) (.inl (by simp))).setCell ⟨bc, 1, none⟩ (.slice CA Cr.length cc) (.inl (by simp))).setCell ⟨bc, 2, none⟩ (.int .i64 Co1) (.inl (by simp))).setCell ⟨bc, 3, none⟩ (.int .i64 Co2) (.inl (by simp))).setCell ⟨bc, 4, none⟩ (.int .i64 Cn1) (.inl (by simp))).setCell ⟨bc, 5, none⟩ (.int .i64 Cn2) (.inl (by simp))
        have hk9 := kq_fresh ((kq_ext hXw.out).trans hK14.out) hF hbc0
        have hb8 := (Below.mono hXw.out hbw).trans hB14.out
        have hb9 := hb8.trans (below_fr hF (by have := hb8.size; omega) (by simp; omega))
        exact ⟨.slice CA Cr.length cc, 0, rfl, by rw [ez.out]; rfl, by rw [ez.out]; exact own_stay hr14.out hF (by intro b hb; rw [List.mem_singleton.1 hb]; exact C14.out.nt (by decide)), fun e => absurd rfl e, fun _ => ⟨b14, v14, hfin.out _ _ _ (pz_set hP14.out C14.out hF (by decide) (by decide) (by decide) (by decide) (by decide))⟩, hk9, hb9⟩
  · have hR1 : (R == 0) = false := by simp [hR0]
    have hR2 : decide (R = 0) = false := decide_eq_false hR0
    clear h hI hT hin hnum hrv hW0 hX0 hz0 hgin hgin2 hbt hbc hrun hch hmk hmi hidL
    replace hm := hide hm
    replace hgl := hide hgl
    haveI : In bt W0 := ⟨hOt.out.lt⟩
    haveI : In bc W0 := ⟨hOc.out.lt⟩
    go_enter Try.func9, Try.ntmps9
    go_wp2_with fail
    rw [← hbch.out, ← hbth.out, ← hW0h.out]
    refine wp_region_list_tail 6 [(.is ((.pointer (some ⟨p, 0, none⟩)))), (.is ((.pointer (some ⟨bt, 1, none⟩)))), (.is ((.int .i64 i))), (.st (fun v w => ∃ G, OwnM w B0 v G ∧ pms G = gistP (atP L i) s.1) (fun v w w' ⟨G, h1, h2⟩ k => ⟨G, h1.ext k, h2⟩)), (.is ((mg k i f t (.slice QA r.length qc)))), (.st (fun v w => ∃ xb, v = .slice (some ⟨xb, 0, none⟩) 1 1 ∧ Ob w xb 28 [.int .i64 k, .int .i64 i, .int .i64 f, .int .i64 t, .slice QA r.length qc]) (fun v w w' ⟨xb, h1, h2⟩ k => ⟨xb, h1, h2.ext k⟩))] (by kernel_rfl) (by kernel_rfl) (by kernel_rfl) (by kernel_rfl) (by kernel_rfl) (by kernel_rfl) (by kernel_rfl) ?_ ?_
    · refine ⟨?_, ?_, ?_, ?_, ?_, ?_, trivial⟩
      · intro b w' h hE
        have f0 : b.tmps.getD 0 undef = (.pointer (some ⟨p, 0, none⟩)) := hE 0 (of_decide_eq_true (by kernel_rfl))
        exact good_move (wanted_none rfl) rfl f0
      · intro b w' h hE
        have f3 : b.tmps.getD 3 undef = (.pointer (some ⟨bt, 0, none⟩)) := hE 3 (of_decide_eq_true (by kernel_rfl))
        exact good_field (wanted_none rfl) rfl f3 (by simp [go_sem]) rfl
      · intro b w' h hE
        have f13 : b.tmps.getD 13 undef = (.pointer (some ⟨bt, 1, none⟩)) := h.dep 1 _ 13 (by kernel_rfl) rfl rfl
        have c0 := cell_later h.ext b1.out
        exact good_load (wanted_none rfl) rfl f13 (by simp [go_sem, c0]) rfl
      · intro b w' h hE
        have f12 : b.tmps.getD 12 undef = (.pointer (some ⟨p, 0, none⟩)) := h.dep 0 _ 12 (by kernel_rfl) rfl rfl
        have g12 : b.tmps[12]?.getD undef = (.pointer (some ⟨p, 0, none⟩)) := by rw [← Array.getD_eq_getD_getElem?]; exact f12
        have f14 : b.tmps.getD 14 undef = (.int .i64 i) := h.dep 2 _ 14 (by kernel_rfl) rfl rfl
        have g14 : b.tmps[14]?.getD undef = (.int .i64 i) := by rw [← Array.getD_eq_getD_getElem?]; exact f14
        refine good_call (wanted_none rfl) rfl (enters Try.func20 (by kernel_rfl) rfl) ?_
        rw [show (#[.tmp 12, .tmp 14] : Array Operand).map b.eval = #[.pointer (some ⟨p, 0, none⟩), .int .i64 i] by simp [Act.eval, g12, g14]]
        exact (hgist.out w' h.ext).mono fun e w1 ⟨v1, G1, he, h1, h2, h3⟩ => ⟨v1, he, ⟨G1, ⟨own_base h1.1 (by have := h.ext.size; rw [hB0.out]; exact Nat.le_trans hB0le.out this), h1.2⟩, h2⟩, h3⟩
      · intro b w' h hE
        have f3 : b.tmps.getD 3 undef = (.pointer (some ⟨bt, 0, none⟩)) := hE 3 (of_decide_eq_true (by kernel_rfl))
        have c0 := cell_later h.ext b0.out
        have c1 := cell_later h.ext b1.out
        have c2 := cell_later h.ext b2.out
        have c3 := cell_later h.ext b3.out
        have c4 := cell_later h.ext b4.out
        exact good_load (wanted_none rfl) rfl f3 (by simp [go_sem, c0, c1, c2, c3, c4]) rfl
      · intro b w' h hE
        have f16 : b.tmps.getD 16 undef = (mg k i f t (.slice QA r.length qc)) := h.dep 4 _ 16 (by kernel_rfl) rfl rfl
        have g16 : b.tmps[16]?.getD undef = (mg k i f t (.slice QA r.length qc)) := by rw [← Array.getD_eq_getD_getElem?]; exact f16
        have hb1 : (Instr.buildSlice 22 1 #[(0, mg k i f t (.slice QA r.length qc))]).run Try.prog w' = .ok (.slice (some ⟨w'.heap.size, 0, none⟩) 1 1) (w'.alloc (mO k i f t (.slice QA r.length qc))) := by simp [go_sem]
        refine good_grow (w' := w'.alloc (mO k i f t (.slice QA r.length qc))) (v := .slice (some ⟨w'.heap.size, 0, none⟩) 1 1) (wanted_none rfl) ?_ ⟨_, rfl, Ob.new w' _ [_, _, _, _, _]⟩ ((Ext.refl _).alloc _)
        simp [execOp, Act.eval, g16, hb1, Sem.run_bind, Sem.run_pure, Result.andThen_ok]
    · intro b w2 hX2 hd hz he' hf
      have e12 : b.tmps.getD 12 undef = (.pointer (some ⟨p, 0, none⟩)) := hf 0 _ 12 (by omega) rfl rfl
      have e13 : b.tmps.getD 13 undef = (.pointer (some ⟨bt, 1, none⟩)) := hf 1 _ 13 (by omega) rfl rfl
      have e14 : b.tmps.getD 14 undef = (.int .i64 i) := hf 2 _ 14 (by omega) rfl rfl
      have f15 : ∃ G, OwnM w2 B0 (b.tmps.getD 15 undef) G ∧ pms G = gistP (atP L i) s.1 := hf 3 _ 15 (by omega) rfl rfl
      have e16 : b.tmps.getD 16 undef = (mg k i f t (.slice QA r.length qc)) := hf 4 _ 16 (by omega) rfl rfl
      have f17 : ∃ xb, (b.tmps.getD 17 undef) = .slice (some ⟨xb, 0, none⟩) 1 1 ∧ Ob w2 xb 28 [.int .i64 k, .int .i64 i, .int .i64 f, .int .i64 t, .slice QA r.length qc] := hf 5 _ 17 (by omega) rfl rfl
      have e := frame_puts hd hz he'
      obtain ⟨X, hXx⟩ : ∃ X : Nat → Value, ∀ d, b.tmps.getD d undef = X d := ⟨_, fun _ => rfl⟩
      rw [hXx] at e12 e13 e14 e16 f15 f17
      obtain ⟨G, hG, hGp⟩ := f15
      obtain ⟨A15, c15, q15⟩ := OwnX.form hG
      rw [q15] at hG
      obtain ⟨xb, q17, hxb⟩ := f17
      rw [show dstsOf _ = [12, 13, 14, 15, 16, 17] from rfl] at e
      simp only [List.foldl_cons, List.foldl_nil, hXx, Act.put, List.setIfInBounds_toArray, List.set_cons_succ, List.set_cons_zero] at e
      rw [e12, e13, e14, e16, q15, q17] at e
      clear hf he' hz hd hXx e12 e13 e14 e16 q15 q17
      subst e
      have hzw := hX2.size
      simp only [List.drop_succ_cons, List.drop_zero]
      have hX9 := hide (show Ext W0 w2 from hX2)
      replace hG := hide hG
      replace hGp := hide hGp
      replace hxb := hide hxb
      have hGl := hgl.out G hGp.out
      clear hX2
      go_wp2_with (first | (at_builtin; refine wpl_app tMsg rfl (.tmp 15) (.tmp 17) rfl rfl hG.out.1 rfl (src_msg _ _ _ _ _ _ _ rfl hxb.out) (by unfold maxLen; omega) (by omega) (by have := hX9.out.size; rw [hB0.out]; omega) ?_; intro v5 w5 ho5 hg5 hob5; replace hg5 : World.grownBy _ w5 (Value.slice A15 G.length c15).ownBlock := hg5; have hX5 := hide (ext_fr hX9.out (fr_grown hg5) (fun b hb => by have h1 := (ob_ge hG.out.1 b hb).1; rw [hB0.out] at h1; exact h1)); have hM5 := hide (hmw.out _ _ G v5 w5 hG.out ho5 hg5 hX5.out); obtain ⟨A5, c5, e5⟩ := own_form ho5; subst e5; clear ho5 hg5 hob5; have hrs := hide (hres.out G _ w5 hX5.out hM5.out hGp.out)) | (go_at_call 21; (with_reducible refine seq_gw hrs.out ?_); intro g8; have hX8 := hide (hX5.out.trans g8.grown); have T8 := hide (hOt.out.ext hX8.out); have t0 := T8.out.cell 0 rfl; have t1 := T8.out.cell 1 rfl; have t2 := T8.out.cell 2 rfl; have C8 := hide (hOc.out.ext hX8.out); have x0 := C8.out.cell 0 rfl; have z0 := C8.out.free 0; have x1 := C8.out.cell 1 rfl; have z1 := C8.out.free 1; have x2 := C8.out.cell 2 rfl; have z2 := C8.out.free 2; have x3 := C8.out.cell 3 rfl; have z3 := C8.out.free 3; have x4 := C8.out.cell 4 rfl; have z4 := C8.out.free 4; have x5 := C8.out.cell 5 rfl; have z5 := C8.out.free 5; haveI : In bt g8.val := ⟨T8.out.lt⟩; haveI : In bc g8.val := ⟨C8.out.lt⟩))
      refine bodyPost_ret (by simp [results, Try.results9, go_sem, x0, x1, x2, x3, x4, x5]; try rfl) rfl ?_
      have hF := ((((((Fr.refl [bc] g8.val).setCell ⟨bc, 0, none⟩ (.int .i64 0) (.inl (by simp))).setCell ⟨bc, 1, none⟩ (.slice none 0 0) (.inl (by simp))).setCell ⟨bc, 2, none⟩ (.int .i64 0) (.inl (by simp))).setCell ⟨bc, 3, none⟩ (.int .i64 0) (.inl (by simp))).setCell ⟨bc, 4, none⟩ (.int .i64 0) (.inl (by simp))).setCell ⟨bc, 5, none⟩ (.int .i64 0) (.inl (by simp))
      have hXf := ext_fr (hX0h.out.trans hX8.out) hF (by intro x hx; simp at hx; omega)
      have ez : chT L s m R = zCh := if_neg (fun e => hR0 e.1)
      exact ⟨.slice none 0 0, R, rfl, by rw [ez]; rfl, by rw [ez]; exact World.ownsRow_nil _ _ _ _, fun _ => pz_set (hz0h.out.ext hX8.out) C8.out hF (by decide) (by decide) (by decide) (by decide) (by decide), fun e => absurd e hR0, kq_ext hXf, Below.mono hXf hbw⟩
end
end Go.Proofs.Ytkfdkjjocdbolaa
set_option linter.unusedVariables false
set_option linter.unusedSimpArgs false
namespace Go.Proofs.Ytkfdkjjocdbolaa
open Go.RowKit
attribute [local go_sem] GW.cell GW.frozen In.eq_true In.le_true In.ne In.ne' In.ne_add In.ne_add' In.lt_add Upto.le_true Upto.le_add Upto.lt_add
theorem ptCol : ElemT Try.prog 31 58 (.agg #[.string ⟨#[]⟩, .int .i64 0]) 2 24 := ElemT.mk' Try.underlying31 (by kernel_rfl) rfl (by omega)
theorem cl_one1 (l : List Cl) : ∀ u ∈ cl l, u.oneCell' = true := fun u hu => by
  unfold cl at hu
  obtain ⟨a, -, ha⟩ := List.mem_flatMap.1 hu
  simp [cc] at ha
  rcases ha with rfl | rfl <;> rfl
set_option maxHeartbeats 1000000 in
set_option maxRecDepth 100000 in
theorem schClone_c (l : List Cl) (v : Value) (w : World) (h : Cw w [] v l) (hz : l.length ≤ 1048576) : Calls Try.prog 17 #[v] w fun e w' => ∃ v', e = .returned v' ∧ w'.ownsRow w.heap.size 58 2 v' l.length (cl l) ∧ Ext w w' := by
  obtain ⟨A, cap, rfl, hl, hm, -⟩ := cw_form h
  have hq := fun w => Lib.run_eql_slice_nil (P := Try.prog) w 31 58 A l.length cap 0 0 Try.underlying31
  cases A with
  | none =>
    have hl0 : l = [] := by
      obtain ⟨A', cap', e, _, _, h3, h4⟩ := h
      rcases h4 with h4 | ⟨b, o, rfl, _⟩
      · have := congrArg List.length h4; rw [cl_length] at this; exact List.eq_nil_of_length_eq_zero (by simp at this; omega)
      · cases e
    subst hl0
    clear h hq
    have hq0 := fun w => Lib.run_eql_slice_nil (P := Try.prog) w 31 58 none 0 cap 0 0 Try.underlying31
    show Calls Try.prog 17 #[.slice none 0 cap] w fun e w' => ∃ v', e = .returned v' ∧ w'.ownsRow w.heap.size 58 2 v' 0 [] ∧ Ext w w'
    go_enter Try.func17, Try.ntmps17
    go_wp2_with fail
    go_returns
    exact ⟨_, rfl, World.ownsRow_nil _ _ _ _, Ext.refl w⟩
  | some a =>
    have hlit := hide (World.ownsRow_lit (base := w.heap.size) (e := 58) (size := 2) w #[] 0 (Nat.le_refl _) (by decide) rfl)
    have hv := hide h
    clear h
    go_enter Try.func17, Try.ntmps17
    go_wp2_with (at_builtin; (refine wpl_app ptCol rfl (.tmp 5) (.tmp 6) rfl rfl hlit.out rfl (src_sl Try.underlying31 (Sl.ext hv.out ((Ext.refl w).alloc _)) (cl_one1 _) (by omega)) (by unfold maxLen; omega) (by omega) (by simp) ?_; intro v1 w1 ho1 hg1 _))
    go_returns
    have ho2 : w1.ownsRow w.heap.size 58 2 v1 l.length (cl l) := by simpa using ho1
    exact ⟨_, rfl, ho2, ext_grown ((Ext.refl w).alloc _) hg1 (fun k hk => (hlit.out.lt k hk).1)⟩
set_option maxHeartbeats 2000000 in
set_option maxRecDepth 100000 in
theorem pnew_c (l : List Cl) (v : Value) (w : World) (h : Cw w [] v l) (ha : mayS l = true) (hz : l.length ≤ 1048576) : Calls Try.prog 7 #[v] w fun e w' => ∃ p mb, e = .returned (.tuple #[.pointer (some ⟨p, 0, none⟩), .int .i64 0]) ∧ Pz w' w.heap.size p l 0 0 mb 0 [] ∧ Ext w w' ∧ w.heap.size ≤ p ∧ w.heap.size ≤ mb := by
  have h1 := hide (mayS_c l v w h)
  rw [ha] at h1
  have h2 := hide (fun w' (hX : Ext w w') => schClone_c l v w' (Sl.ext h hX) hz)
  obtain ⟨A, cap, rfl, -, -, -⟩ := cw_form h
  have hmk : ∀ w, (Instr.makeMap 60 none).run Try.prog w = .ok (.map (some w.heap.size)) (w.alloc (.map #[] 0)) := fun _ => by kernel_rfl
  clear h ha
  go_enter Try.func7, Try.ntmps7
  go_wp2_with (first | (go_at_call 16; (with_reducible refine seq_gw h1.out ?_); intro g) | (go_at_call 17; refine (h2.out _ g.grown).mono ?_; rintro ee w2 ⟨v2, rfl, ho2, hX2⟩; have hX3 := hide (g.grown.trans hX2); obtain ⟨A2, c2, e2⟩ := own_form ho2; subst e2; replace ho2 := hide ho2; clear hX2))
  go_returns
  have hO := Ob.new (w2.alloc (.map #[] 0)) 65 [.slice A2 l.length c2, .int .i64 0, .int .i64 0, .map (some w2.heap.size), .slice none 0 0]
  rw [World.size_alloc] at hO
  have hX4 := (((Ext.refl w2).alloc (.map #[] 0)).alloc (.cells #[.slice A2 l.length c2, .int .i64 0, .int .i64 0, .map (some w2.heap.size), .slice none 0 0] 65))
  have hs := hX3.out.size
  exact ⟨_, _, rfl, ⟨⟨_, _, ⟨hO, World.ownsRow_nil _ _ _ _, by simp⟩, own_base (own_ext ho2.out hX4) (Nat.zero_le _)⟩, (Mv.made kentP w2 Try.prog 3).alloc _, by simp⟩, hX3.out.trans hX4, by omega, hs⟩
theorem cols_c (w : World) : Calls Try.prog 6 #[] w fun e w' => e = .returned (.slice (some ⟨w.heap.size, 0, none⟩) 1 1) ∧ w' = w.alloc (.cells #[.string ⟨#[97]⟩, .int .i64 1] 58) := by
  go_enter Try.func6, Try.ntmps6
  go_wp2_with fail
  go_returns
  exact ⟨rfl, rfl⟩
def colA : List Cl := [(⟨#[97]⟩, 1)]
theorem cols_cw (w : World) : Cw (w.alloc (.cells #[.string ⟨#[97]⟩, .int .i64 1] 58)) [] (.slice (some ⟨w.heap.size, 0, none⟩) 1 1) colA := by
  refine ⟨some ⟨w.heap.size, 0, none⟩, 1, rfl, Nat.le_refl _, by decide, rfl, .inr ⟨w.heap.size, 0, rfl, by simp, fun j u hj => ?_⟩⟩
  rw [Nat.zero_add]
  exact (Ob.new w 58 [.string ⟨#[97]⟩, .int .i64 1]).cell j hj
theorem mayColA : mayS colA = true := by decide
end Go.Proofs.Ytkfdkjjocdbolaa
set_option linter.unusedVariables false
set_option linter.unusedSimpArgs false
namespace Go.Proofs.Ytkfdkjjocdbolaa
open Go.RowKit
attribute [local go_sem] GW.cell GW.frozen In.eq_true In.le_true In.ne In.ne' In.ne_add In.ne_add' In.lt_add Upto.le_true Upto.le_add Upto.lt_add
def lrow : List Vl := [(1, 5, ⟨#[]⟩)]
def lm1 : PM := ((1, 1, 2, 9), lrow)
def lm2 : PM := ((3, 0, 9, 0), [])
def lm3 : PM := ((2, 1, 0, 3), [])
def ls0 : StD := (0, [])
def ls1 : StD := (0, [((1, lrow), (2, 9), false)])
def ls2 : StD := (9, [((1, lrow), (2, 9), false)])
theorem lc1 : chkD ls0 lm1 = 0 := by decide
theorem lc2 : chkD ls1 lm2 = 0 := by decide
theorem lt1 : (tk ls0 lm1).1 = ls1 := rfl
theorem lt2 : (tk ls1 lm2).1 = ls2 := rfl
theorem stp_tk {s : StD} {m : PM} (h : chkD s m = 0) : stp s m = (tk s m).1 := by unfold stp; rw [if_pos h]
theorem li1 : ∃ T, InvF T ls1 := ⟨_, by have := InvF.nil.step lm1 (.slice none 0 0); rw [show ((0, []) : StD) = ls0 from rfl, stp_tk lc1, lt1] at this; exact this⟩
theorem li2 : ∃ T, InvF T ls2 := by
  obtain ⟨T, hT⟩ := li1
  have := hT.step lm2 (.slice none 0 0)
  rw [stp_tk lc2, lt2] at this
  exact ⟨_, this⟩
theorem lp1 (b : Nat) (v : Value) : PInv (nxP [] ls0 lm1 b v) ls1 := PInv.nil.take InvF.nil lm1 b v lc1
theorem lp2 (b : Nat) (v : Value) (b2 : Nat) (v2 : Value) : PInv (nxP (nxP [] ls0 lm1 b v) ls1 lm2 b2 v2) ls2 := by
  obtain ⟨T, hT⟩ := li1
  exact (lp1 b v).take hT lm2 b2 v2 lc2
theorem lx1 (b : Nat) (v : Value) : nxP [] ls0 lm1 b v = [(((1, 1), lrow, (2, 9)), b, v)] := rfl
theorem lx2 (b : Nat) (v : Value) (b2 : Nat) (v2 : Value) : nxP (nxP [] ls0 lm1 b v) ls1 lm2 b2 v2 = [] := rfl
section
variable {base p mb : Nat}
theorem tk1_c (w : World) (h : Pz w base p colA 0 0 mb 0 []) (rv : Value) (hrv : Rw w [] rv lrow) (hbw : base ≤ w.heap.size) (hbm : base ≤ mb) (hbp : base ≤ p) :
    Calls Try.prog 9 #[.pointer (some ⟨p, 0, none⟩), mg 1 1 2 9 rv] w fun e w' => ∃ CA cc b v, e = .returned (.tuple #[.agg #[.int .i64 1, .slice CA 1 cc, .int .i64 0, .int .i64 0, .int .i64 2, .int .i64 9], .int .i64 0]) ∧ Pz w' base p colA 0 1 mb 1 (nxP [] ls0 lm1 b v) ∧ Kq w w' ∧ Below base w w' := by
  refine (ptake_c (s := ls0) 1 1 2 9 lrow rv w h PInv.nil InvF.nil (by unfold inM inI lrow; simp) (by simp) (by simp) hrv hbw hbm hbp (by decide) (by decide)).mono ?_
  rintro e w' ⟨cv, R, hR, he, hro, -, hP, hK, hB⟩
  have hR0 : R = 0 := hR.trans (by decide)
  rw [hR0] at he hro hP
  obtain ⟨b, v, hP⟩ := hP rfl
  obtain ⟨CA, cc, ec⟩ := own_form hro
  rw [ec] at he
  exact ⟨CA, cc, b, v, he, hP, hK, hB⟩
theorem tk2_c (w : World) (b : Nat) (v : Value) (h : Pz w base p colA 0 1 mb 1 (nxP [] ls0 lm1 b v)) (hbw : base ≤ w.heap.size) (hbm : base ≤ mb) (hbp : base ≤ p) :
    Calls Try.prog 9 #[.pointer (some ⟨p, 0, none⟩), mg 3 0 9 0 (.slice none 0 0)] w fun e w' => ∃ CA cc, e = .returned (.tuple #[.agg #[.int .i64 0, .slice CA 0 cc, .int .i64 0, .int .i64 0, .int .i64 0, .int .i64 0], .int .i64 0]) ∧ Pz w' base p colA 9 1 mb 2 [] ∧ Kq w w' ∧ Below base w w' := by
  obtain ⟨T, hT⟩ := li1
  refine (ptake_c (s := ls1) 3 0 9 0 [] (.slice none 0 0) w h (lp1 b v) hT (by unfold inM inI; simp) (by
    intro y hy
    rcases row_nx hy with e | ⟨z, hz, -⟩
    · rw [e]; unfold lm1 lrow inI; simp
    · cases hz) (by rw [lx1]; simp) (Sl.nil _ _ _) hbw hbm hbp (by decide) (by decide)).mono ?_
  rintro e w' ⟨cv, R, hR, he, hro, -, hP, hK, hB⟩
  have hR0 : R = 0 := hR.trans (by rw [lx1, List.length_singleton]; decide)
  rw [hR0] at he hro hP
  obtain ⟨b2, v2, hP⟩ := hP rfl
  obtain ⟨CA, cc, ec⟩ := own_form hro
  rw [ec] at he
  exact ⟨CA, cc, he, hP, hK, hB⟩
theorem tk3_c (w : World) (h : Pz w base p colA 9 1 mb 2 []) (hbw : base ≤ w.heap.size) (hbm : base ≤ mb) (hbp : base ≤ p) :
    Calls Try.prog 9 #[.pointer (some ⟨p, 0, none⟩), mg 2 1 0 3 (.slice none 0 0)] w fun e w' => ∃ CA cc, e = .returned (.tuple #[.agg #[.int .i64 0, .slice CA 0 cc, .int .i64 0, .int .i64 0, .int .i64 0, .int .i64 0], .int .i64 8]) ∧ Pz w' base p colA 9 1 mb 2 [] ∧ Kq w w' ∧ Below base w w' := by
  obtain ⟨T, hT⟩ := li2
  refine (ptake_c (s := ls2) 2 1 0 3 [] (.slice none 0 0) w h (lp2 0 (.slice none 0 0) 0 (.slice none 0 0)) hT (by unfold inM inI; simp) (by simp) (by simp) (Sl.nil _ _ _) hbw hbm hbp (by decide) (by decide)).mono ?_
  rintro e w' ⟨cv, R, hR, he, hro, hP, -, hK, hB⟩
  have hR0 : R = 8 := hR.trans (by decide)
  rw [hR0] at he hro hP
  obtain ⟨CA, cc, ec⟩ := own_form hro
  rw [ec] at he
  exact ⟨CA, cc, he, hP (by decide), hK, hB⟩
end
theorem lrow_rw (w : World) : Rw (w.alloc (.cells #[.int .i64 1, .int .i64 5, .string ⟨#[]⟩] 54)) [] (.slice (some ⟨w.heap.size, 0, none⟩) 1 1) lrow := by
  refine ⟨some ⟨w.heap.size, 0, none⟩, 1, rfl, Nat.le_refl _, by decide, rfl, .inr ⟨w.heap.size, 0, rfl, by simp, fun j u hj => ?_⟩⟩
  rw [Nat.zero_add]
  exact (Ob.new w 54 [.int .i64 1, .int .i64 5, .string ⟨#[]⟩]).cell j hj
set_option maxHeartbeats 8000000 in
set_option maxRecDepth 100000 in
theorem pastLive_c (w : World) : Calls Try.prog 4 #[] w fun e w' => e = .returned (.bool true) ∧ Ext w w' := by
  obtain ⟨W1, hW1⟩ : ∃ W1, W1 = w.alloc (.cells #[.string ⟨#[97]⟩, .int .i64 1] 58) := ⟨_, rfl⟩
  have hX1 := hide (show Ext w W1 by rw [hW1]; exact (Ext.refl w).alloc _)
  have hN := hide (pnew_c colA (.slice (some ⟨w.heap.size, 0, none⟩) 1 1) W1 (by rw [hW1]; exact cols_cw w) mayColA (by decide))
  replace hW1 := hide hW1
  obtain ⟨B, hB⟩ : ∃ B, B = W1.heap.size := ⟨_, rfl⟩
  rw [← hB] at hN
  replace hB := hide hB
  go_enter Try.func4, Try.ntmps4
  go_wp2_with (first
    | (go_at_call 6; refine (cols_c _).mono ?_; rintro ee w1 ⟨rfl, rfl⟩; rw [← hW1.out])
    | (go_at_call 7; refine hN.out.mono ?_; rintro ee w2 ⟨p, mb, rfl, hz2, hX2, hp, hmb⟩; have hs2 : B ≤ w2.heap.size := (by have := hX2.size; rw [hB.out]; exact this); replace hz2 := hide hz2; replace hX2 := hide hX2)
    | (go_at_call 9; first
      | ((with_reducible refine (tk3_c (w5.alloc (.cells #[.int .i64 0, .slice C5 0 c5, .int .i64 0, .int .i64 0, .int .i64 0, .int .i64 0] 42)) (hz5.out.ext ((Ext.refl _).alloc _)) (by simp only [World.size_alloc]; omega) hmb hp).mono ?_); rintro ee w6 ⟨C6, c6, rfl, hz6, hK6, hB6⟩; have hs6 : B ≤ w6.heap.size := (by have := hB6.size; simp only [World.size_alloc] at this; omega); have O6 := hide (hK6 _ _ _ (O5.out.ext ((Ext.refl w5).alloc _)) (by decide) (by decide)); have x0 := O6.out.cell 0 rfl; have x4 := O6.out.cell 4 rfl; have x5 := O6.out.cell 5 rfl; haveI : In w3.heap.size w6 := ⟨O6.out.lt⟩; have hcnt0 : Hid (∀ w', Ext w6 w' → Calls Try.prog 12 #[.pointer (some ⟨p, 0, none⟩)] w' fun e w'' => e = .returned (.int .i64 0) ∧ Ext w' w'') := (fun w' hX => pcount_c w' (hz6.ext hX)); have hclk : Hid (∀ w', Ext w6 w' → Calls Try.prog 11 #[.pointer (some ⟨p, 0, none⟩)] w' fun e w'' => e = .returned (.int .i64 9) ∧ Ext w' w'') := (fun w' hX => pclock_c w' (hz6.ext hX)); have hB6' := hide hB6; clear hz6 hK6 hB6)
      | ((with_reducible refine (tk2_c g4.val b v hz4.out hs4 hmb hp).mono ?_); rintro ee w5 ⟨C5, c5, rfl, hz5, hK5, hB5⟩; have hs5 : B ≤ w5.heap.size := (by have := hB5.size; omega); have O5 := hide (hK5 _ _ _ O4.out (by decide) (by decide)); replace hz5 := hide hz5; have hB5' := hide hB5; clear hK5 hB5)
      | ((with_reducible refine (tk1_c (w2.alloc (.cells #[.int .i64 1, .int .i64 5, .string ⟨#[]⟩] 54)) (hz2.out.ext ((Ext.refl _).alloc _)) _ (lrow_rw w2) (by simp only [World.size_alloc]; omega) hmb hp).mono ?_); rintro ee w3 ⟨CA, cc, b, v, rfl, hz3, hK3, hB3⟩; have hs3 : B ≤ w3.heap.size := (by have := hB3.size; simp only [World.size_alloc] at this; omega); have hz3' := hide (hz3.ext ((Ext.refl w3).alloc (.cells #[.int .i64 1, .slice CA 1 cc, .int .i64 0, .int .i64 0, .int .i64 2, .int .i64 9] 42))); have O3 := hide (Ob.new w3 42 [.int .i64 1, .slice CA 1 cc, .int .i64 0, .int .i64 0, .int .i64 2, .int .i64 9]); have hcnt1 : Hid (Calls Try.prog 12 #[.pointer (some ⟨p, 0, none⟩)] (w3.alloc (.cells #[.int .i64 1, .slice CA 1 cc, .int .i64 0, .int .i64 0, .int .i64 2, .int .i64 9] 42)) fun e w'' => e = .returned (.int .i64 1) ∧ Ext (w3.alloc (.cells #[.int .i64 1, .slice CA 1 cc, .int .i64 0, .int .i64 0, .int .i64 2, .int .i64 9] 42)) w'') := pcount_c _ hz3'.out; have hB3' := hide hB3; clear hz3 hK3 hB3))
    | (go_at_call 12; first
      | ((with_reducible refine seq_gw (hcnt0.out _ ((Ext.refl w6).alloc _)) ?_); intro g7)
      | ((with_reducible refine seq_gw hcnt1.out ?_); intro g4; have hs4 : B ≤ g4.val.heap.size := (by have := g4.grown.size; simp only [World.size_alloc] at this; omega); have hz4 := hide (hz3'.out.ext g4.grown); have O4 := hide (O3.out.ext g4.grown)))
    | (go_at_call 11; (with_reducible refine seq_gw (hclk.out _ (((Ext.refl w6).alloc _).trans g7.grown)) ?_); intro g8))
  go_returns
  refine ⟨rfl, hX1.out.trans (show Ext W1 g8.val from ?_)⟩
  have e1 : Below B W1 g8.val := ((((((show Below B W1 w2 by rw [hB.out]; exact hX2.out).trans (Below.mono ((Ext.refl w2).alloc (.cells #[.int .i64 1, .int .i64 5, .string ⟨#[]⟩] 54)) hs2)).trans hB3'.out).trans (Below.mono (((Ext.refl w3).alloc (.cells #[.int .i64 1, .slice CA 1 cc, .int .i64 0, .int .i64 0, .int .i64 2, .int .i64 9] 42)).trans g4.grown) hs3)).trans hB5'.out).trans (Below.mono ((Ext.refl w5).alloc (.cells #[.int .i64 0, .slice C5 0 c5, .int .i64 0, .int .i64 0, .int .i64 0, .int .i64 0] 42)) hs5)).trans (hB6'.out.trans (Below.mono ((((Ext.refl w6).alloc (.cells #[.int .i64 0, .slice C6 0 c6, .int .i64 0, .int .i64 0, .int .i64 0, .int .i64 0] 42)).trans g7.grown).trans g8.grown) hs6))
  rw [hB.out] at e1
  exact e1
end Go.Proofs.Ytkfdkjjocdbolaa
set_option linter.unusedVariables false
namespace Go.Proofs.Ytkfdkjjocdbolaa
theorem cnt_range {α : Type} (P : α → Bool) : ∀ l : List α, (l.filter P).length = ((List.range l.length).filter fun j => (l[j]?).any P).length
  | [] => rfl
  | a :: r => by
    have ih := cnt_range P r
    rw [List.length_cons, List.range_succ_eq_map, List.filter_cons, List.filter_cons, List.filter_map, show ((fun j => ((a :: r)[j]?).any P) ∘ Nat.succ) = fun j => (r[j]?).any P by funext j; simp]
    simp only [List.getElem?_cons_zero, Option.any_some]
    split
    · rw [List.length_cons, List.length_cons, List.length_map, ih]
    · rw [List.length_map, ih]
theorem cnt_live {L : List Pb} {s : StD} (h : PInv L s) (h0 : 0 ≤ s.1) : (((exL s.2).filter fun x => !goneX x).filter fun x => decide (s.1 < x.2.2)).length = L.length := by
  have e1 : ((exL s.2).filter fun x => !goneX x).filter (fun x => decide (s.1 < x.2.2)) = (exL s.2).filter fun x => decide (s.1 < x.2.2) := by
    rw [List.filter_filter]
    refine List.filter_congr fun x _ => ?_
    by_cases hx : s.1 < x.2.2
    · have : goneX x = false := by unfold goneX; rw [decide_eq_false_iff_not]; omega
      simp [hx, this]
    · simp [hx]
  have e2 : ((exL s.2).filter fun x => decide (s.1 < x.2.2)).length = (s.2.filter fun e => decide (e.2.2 = false ∧ s.1 < e.2.1.2)).length := by
    unfold exL
    rw [List.filter_map, List.length_map]
    refine congrArg List.length (List.filter_congr fun e _ => ?_)
    show decide (s.1 < (exE e).2.2) = _
    unfold exE
    cases hg : e.2.2
    · simp
    · simp
      omega
  rw [e1, e2, cnt_range]
  have hp : ((List.range s.2.length).filter fun j => (s.2[j]?).any fun e => decide (e.2.2 = false ∧ s.1 < e.2.1.2)).Perm (L.map fun p => pSer p - 1) := by
    refine (List.perm_ext_iff_of_nodup (List.Pairwise.filter _ List.nodup_range) ?_).2 fun j => ?_
    · refine List.Pairwise.map _ (S := fun a b => a ≠ b) (R := fun p q => p ∈ L ∧ q ∈ L ∧ pId p ≠ pId q) ?_ ?_
      · rintro p q ⟨hp, hq, hn⟩ he
        obtain ⟨k1, k2, k3⟩ := h.known p hp
        obtain ⟨l1, l2, l3⟩ := h.known q hq
        rw [he, l3] at k3
        have := congrArg (fun o : Option Ev => o.map fun e => e.1.1) k3
        simp at this
        exact hn this.symm
      · exact List.Pairwise.imp_of_mem (fun ha hb hr => ⟨ha, hb, hr⟩) h.ids
    · rw [List.mem_filter, List.mem_range, List.mem_map]
      constructor
      · rintro ⟨hj, ha⟩
        rw [List.getElem?_eq_getElem hj, Option.any_some, decide_eq_true_iff] at ha
        obtain ⟨p, hp, e⟩ := h.all j s.2[j] (List.getElem?_eq_getElem hj) ha.1 ha.2
        exact ⟨p, hp, by unfold pSer; rw [e]; rfl⟩
      · rintro ⟨p, hp, rfl⟩
        obtain ⟨k1, k2, k3⟩ := h.known p hp
        refine ⟨(List.getElem?_eq_some_iff.1 k3).1, ?_⟩
        rw [k3, Option.any_some, decide_eq_true_iff]
        exact ⟨rfl, k1⟩
  rw [hp.length_eq, List.length_map]
end Go.Proofs.Ytkfdkjjocdbolaa
set_option linter.unusedVariables false
set_option linter.unusedSimpArgs false
namespace Go.Proofs.Ytkfdkjjocdbolaa
open Go.RowKit
attribute [local go_sem] GW.cell GW.frozen In.eq_true In.le_true In.ne In.ne' In.ne_add In.ne_add' In.lt_add Upto.le_true Upto.le_add Upto.lt_add
theorem own_one {w : World} {base : Nat} {v : Value} {F : List Vm} {q : Vm} (h : w.ownsRow base 28 5 v (F.length + 1) (mc F ++ mc1 q)) : w.ownsRow base 28 5 v (F ++ [q]).length (mc (F ++ [q])) := by
  have e1 : mc (F ++ [q]) = mc F ++ mc1 q := by unfold mc; rw [List.flatMap_append]; simp
  rw [e1, List.length_append, List.length_singleton]; exact h
theorem chk_mk {s : StD} {m : PM} (h : mkM m ≠ 0) : chkD s m = mkM m := by unfold chkD chkO; rw [if_pos h]
theorem res_fit {s : StD} {m : PM} {ins fit : Bool} {cn : Nat} (hf : ins = true → fit = true) (hc : cn < 4096) : resI (mkM m) ins fit (chkD s m) cn = chkD s m := by
  unfold resI
  by_cases hK : mkM m = 0
  · rw [if_pos hK]
    have h1 : (ins && !fit) = false := by cases ins <;> simp_all
    rw [h1]
    by_cases hE : chkD s m = 0
    · have h2 : decide (4096 ≤ cn) = false := decide_eq_false (by omega)
      rw [hE, h2]; simp
    · simp [hE]
  · rw [if_neg hK, chk_mk hK]
theorem runE_at {l : List PM} {k : Nat} {m : PM} (h : l[k]? = some m) : (runE (0, []) l)[k]? = some (chkD (runS (0, []) (l.take k)) m) := by
  obtain ⟨hk, e⟩ := List.getElem?_eq_some_iff.1 h
  have h1 : l = l.take k ++ m :: l.drop (k + 1) := by rw [← e, ← List.drop_eq_getElem_cons hk, List.take_append_drop]
  have h2 := runE_len (l.take k) (0, [])
  have h3 : (runE (0, []) (l.take k)).length = k := by rw [h2, List.length_take]; omega
  conv => lhs; rw [h1]
  rw [runE_app, List.getElem?_append_right (by omega), h3, Nat.sub_self]
  rfl
theorem pown_ns {w : World} {base e N : Nat} {v : Value} {L : List Int} (h : w.ownsRow base e 1 v N (ns L)) {k : Nat} (hk : k < N) {x : Int} (hx : L[k]? = some x) : ∃ g cap, v = .slice (some ⟨g, 0, none⟩) N cap ∧ g < w.heap.size ∧ w.cell? ⟨g, k, none⟩ = some (.int .i64 x) := by
  rcases h.2 with ⟨-, h2⟩ | ⟨g, cap, cur, rfl, hb, hg, -⟩
  · omega
  · have c0 := h.cells (g := g) rfl k (.int .i64 x) (by unfold ns; rw [List.getElem?_map, hx]; rfl)
    rw [add_plain, Nat.zero_add] at c0
    exact ⟨g, cap, rfl, block_lt_of_cell c0, c0⟩
/-- A past that took the first k. -/
def Tkn (F : List Vm) (B p mb k : Nat) (w : World) : Prop := ∃ (n : Nat) (L : List Pb), n ≤ k ∧ L.length ≤ k ∧ PInv L (runS (0, []) ((pms F).take k)) ∧ Pz w B p colA (runS (0, []) ((pms F).take k)).1 (runS (0, []) ((pms F).take k)).2.length mb n L ∧ (∀ y ∈ L, ∀ a ∈ y.1.2.1, inI a.2.1)
theorem Tkn.ext {F : List Vm} {B p mb k : Nat} {w w' : World} (h : Tkn F B p mb k w) (hX : Ext w w') : Tkn F B p mb k w' := by
  obtain ⟨n, L, h1, h2, h3, h4, h5⟩ := h
  exact ⟨n, L, h1, h2, h3, h4.ext hX, h5⟩
def fitB (p : Vm) : Bool := decide (p.2.1.1 ≠ 1) || fitsS colA p.2.2
theorem tkn_take {F : List Vm} {B p mb k : Nat} {w : World} (h : Tkn F B p mb k w) (hF : F.length ≤ 400) (pk pi pf pt : Int) (pr : List Vl) (rv : Value) (hq : F[k]? = some (rv, ((pk, pi, pf, pt), pr))) (hin : inM ((pk, pi, pf, pt), pr)) (hfit : fitB (rv, ((pk, pi, pf, pt), pr)) = true) (hrv : Rw w [] rv pr) (hbw : B ≤ w.heap.size) (hbm : B ≤ mb) (hbp : B ≤ p) :
    Calls Try.prog 9 #[.pointer (some ⟨p, 0, none⟩), mg pk pi pf pt rv] w fun e w' => ∃ (C1 : Int) (CA : Option Addr) (cn cc : Nat) (o1 o2 n1 n2 : Int), e = .returned (.tuple #[.agg #[.int .i64 C1, .slice CA cn cc, .int .i64 o1, .int .i64 o2, .int .i64 n1, .int .i64 n2], .int .i64 (chkD (runS (0, []) ((pms F).take k)) ((pk, pi, pf, pt), pr))]) ∧ Tkn F B p mb (k + 1) w' ∧ Kq w w' ∧ Below B w w' := by
  obtain ⟨n, L, h1, h2, h3, h4, h5⟩ := h
  have hk : k < F.length := (List.getElem?_eq_some_iff.1 hq).1
  have hpm := pms_at hq
  have hst := runS_take hpm (0, [])
  obtain ⟨T, hT⟩ := runS_inv ((pms F).take k)
  have hsl := runS_len ((pms F).take k) (0, [])
  have hpl := pms_len F k
  simp only [List.length_nil, Nat.zero_add] at hsl
  unfold Tkn
  rw [hst]
  simp only at *
  generalize runS (0, []) ((pms F).take k) = s at *
  refine (ptake_c pk pi pf pt pr rv w h4 h3 hT hin h5 (by omega) hrv hbw hbm hbp (by unfold maxLen; omega) (by omega)).mono ?_
  rintro e w' ⟨cv, R, hR, he, hro, hP0, hP1, hK, hB⟩
  have hRe : R = chkD s ((pk, pi, pf, pt), pr) := hR.trans (res_fit (fun hi => by
    have h7 := of_decide_eq_true hi
    unfold fitB at hfit
    simpa [h7] using hfit) (by omega))
  obtain ⟨CA, cc, ec⟩ := own_form hro
  rw [hRe] at he hP0 hP1
  obtain ⟨C1, Cr, ⟨o1, o2⟩, n1, n2⟩ : Ch := chT L s ((pk, pi, pf, pt), pr) R
  refine ⟨(chT L s ((pk, pi, pf, pt), pr) R).1, CA, _, cc, (chT L s ((pk, pi, pf, pt), pr) R).2.2.1.1, (chT L s ((pk, pi, pf, pt), pr) R).2.2.1.2, (chT L s ((pk, pi, pf, pt), pr) R).2.2.2.1, (chT L s ((pk, pi, pf, pt), pr) R).2.2.2.2, by rw [he, ec, hRe]; rfl, ?_, hK, hB⟩
  by_cases h0 : chkD s ((pk, pi, pf, pt), pr) = 0
  · obtain ⟨b, v, hP⟩ := hP1 h0
    rw [show stp s ((pk, pi, pf, pt), pr) = (tk s ((pk, pi, pf, pt), pr)).1 by unfold stp; rw [if_pos h0]]
    refine ⟨n + 1, _, by omega, Nat.le_trans len_nx (by omega), h3.take hT _ b v h0, hP, fun y hy => ?_⟩
    rcases row_nx hy with e | ⟨z, hz, e⟩
    · rw [e]; exact hin.2
    · rw [e]; exact h5 z hz
  · rw [show stp s ((pk, pi, pf, pt), pr) = s by unfold stp; rw [if_neg h0]]
    exact ⟨n, L, by omega, by omega, h3, hP0 h0, h5⟩
theorem cnt_take {α : Type} (P : α → Bool) (l : List α) {k : Nat} {p : α} (h : l[k]? = some p) : ((l.take (k + 1)).filter P).length = ((l.take k).filter P).length + (if P p then 1 else 0) := by
  rw [List.take_add_one, h, List.filter_append, List.length_append]
  simp only [Option.toList_some, List.filter_cons, List.filter_nil]
  split <;> rfl
theorem cell_ev {w : World} {base : Nat} {v : Value} {M : List (Value × Ex)} (h : OwnEx w base v M) {k : Nat} {x : Value × Ex} (hx : M[k]? = some x) : ∃ g cap, v = .slice (some ⟨g, 0, none⟩) M.length cap ∧ g < w.heap.size ∧ w.cell? ⟨g, k * 4 + 3, none⟩ = some (.int .i64 x.2.2.2) := by
  have hk : k < M.length := (List.getElem?_eq_some_iff.1 hx).1
  obtain ⟨hown, -⟩ := h
  rcases hown.2 with ⟨-, h2⟩ | ⟨g, cap, cur, rfl, hb, hg, -⟩
  · omega
  · have c0 := (World.ownsRow.cellAt hown (k * 4 + 3) (by omega)).trans (evs_get M k x hx 3 _ rfl)
    exact ⟨g, cap, rfl, block_lt_of_cell c0, c0⟩
theorem fit_take (l : List Vm) {k : Nat} {p : Vm} (h : l[k]? = some p) : (l.take (k + 1)).filter fitB = (l.take k).filter fitB ++ (if fitB p then [p] else []) := by
  rw [List.take_add_one, h, List.filter_append]
  simp only [Option.toList_some, List.filter_cons, List.filter_nil]
set_option maxHeartbeats 16000000 in
set_option maxRecDepth 100000 in
theorem walk (l : List Vm) (hi : ∀ p ∈ l, inM p.2) (u : Value) (w : World) (hl : Mw w [] u l) : Calls Try.prog 3 #[u] w fun e w' => e = .returned (.bool true) ∧ Ext w w' := by
  by_cases hs : l.length ≤ 400
  · have d1 : ¬ (400 : Int) < l.length := by omega
    obtain ⟨LA, lc, rfl, hlc, hlm, hat⟩ := mw_form hl
    unfold maxLen at hlm
    replace hat := hide hat
    have hrw := hide hl.2
    replace hl := hide hl
    go_enter Try.func3, Try.ntmps3
    go_wp2_with fail
    go_loopg [3, 4] l.length (fun gh v3 iv wr => ∃ (k : Nat) (FA : Option Addr) (fc : Nat), iv = .int .i64 k ∧ k + gh = l.length ∧ v3 = .slice FA ((l.take k).filter fitB).length fc ∧ Hid (wr.ownsRow w.heap.size 28 5 (.slice FA ((l.take k).filter fitB).length fc) ((l.take k).filter fitB).length (mc ((l.take k).filter fitB))) ∧ Hid (Ext w wr))
    case atStart => exact ⟨0, _, 0, rfl, by omega, rfl, World.ownsRow_lit (base := w.heap.size) (e := 28) (size := 5) w #[] 0 (Nat.le_refl _) (by decide) rfl, (Ext.refl w).alloc _⟩
    case round =>
      obtain ⟨k, FA, fc, rfl, hk, rfl, ho, hX⟩ := hrel
      by_cases hkl : k < l.length
      · have hkI : (k : Int) < l.length := by omega
        have hkn : (0 : Int) ≤ k := by omega
        obtain ⟨p, hp⟩ : ∃ p, l[k]? = some p := ⟨_, List.getElem?_eq_getElem hkl⟩
        obtain ⟨ub, uo, rfl, -, hbl, c0, c1, c2, c3, c4⟩ := hat.out k p hp
        have hpr := hrw.out p (List.mem_of_getElem? hp)
        have hft := hide (fit_take l hp)
        obtain ⟨pv, ⟨pk, pi, pf, pt⟩, pr⟩ := p
        obtain ⟨QA, qc, eq⟩ := rw_val hpr
        simp only at eq
        subst eq
        generalize hFe : (l.take k).filter fitB = F at *
        have hFl : F.length ≤ 400 := by have h7 := List.length_filter_le fitB (l.take k); rw [hFe, List.length_take] at h7; omega
        have c0h := hide (pcell_later hX.out c0)
        have c1h := hide (pcell_later hX.out c1)
        have c2h := hide (pcell_later hX.out c2)
        have c3h := hide (pcell_later hX.out c3)
        have c4h := hide (pcell_later hX.out c4)
        have hpq := hide (fun w' (hY : Ext wr w') => (Sl.ext hpr (hX.out.trans hY) : Rw w' [] (.slice QA pr.length qc) pr))
        have hbr : ub < wr.heap.size := Nat.lt_of_lt_of_le hbl hX.out.size
        have hbw := hX.out.size
        haveI : In ub wr := ⟨hbr⟩
        clear hFe hp hpr
        by_cases h1 : pk = 1
        · subst h1
          have hrf := hide (fun (v : Value) (w' : World) (h : Cw w' [] v colA) (h2 : Rw w' [] (.slice QA pr.length qc) pr) => refFitsS_c h h2)
          have hfb : fitB ((.slice QA pr.length qc : Value), (((1, pi, pf, pt), pr) : PM)) = fitsS colA pr := by unfold fitB; simp
          rw [hfb] at hft
          generalize fitsS colA pr = FT at *
          clear c0 c1 c2 c3 c4 hfb
          cases FT
          · have hft2 := hide (show (l.take (k + 1)).filter fitB = F from by have := hft.out; simpa using this)
            go_wp2_with fail
            refine wp_region_list_tail 14 [(.is ((.slice (some ⟨ub, uo, none⟩) l.length lc))), (.is ((.int .i64 k))), (.is ((.pointer (some ⟨ub, uo + k * 5, none⟩)))), (.is ((.pointer (some ⟨ub, uo + k * 5, none⟩)))), (.is ((.int .i64 1))), (.is ((.bool false))), (.is ((.bool false))), (.st (fun v w => ∃ xb, v = .slice (some ⟨xb, 0, none⟩) 1 1 ∧ Cw w [] (.slice (some ⟨xb, 0, none⟩) 1 1) colA) (fun v w w' ⟨xb, h1, h2⟩ k => ⟨xb, h1, Sl.ext h2 k⟩)), (.is ((.slice (some ⟨ub, uo, none⟩) l.length lc))), (.is ((.int .i64 k))), (.is ((.pointer (some ⟨ub, uo + k * 5, none⟩)))), (.is ((.pointer (some ⟨ub, uo + k * 5 + 4, none⟩)))), (.is ((.slice QA pr.length qc))), (.is ((.bool false)))] (by kernel_rfl) (by kernel_rfl) (by kernel_rfl) (by kernel_rfl) (by kernel_rfl) (by kernel_rfl) (by kernel_rfl) ?_ ?_
            · refine ⟨?_, ?_, ?_, ?_, ?_, ?_, ?_, ?_, ?_, ?_, ?_, ?_, ?_, ?_, trivial⟩
              · intro b w' h hE
                have f0 : b.tmps.getD 0 undef = (.slice (some ⟨ub, uo, none⟩) l.length lc) := hE 0 (of_decide_eq_true (by kernel_rfl))
                exact good_move (wanted_none rfl) rfl f0
              · intro b w' h hE
                have f4 : b.tmps.getD 4 undef = (.int .i64 k) := hE 4 (of_decide_eq_true (by kernel_rfl))
                exact good_move (wanted_none rfl) rfl f4
              · intro b w' h hE
                have f25 : b.tmps.getD 25 undef = (.slice (some ⟨ub, uo, none⟩) l.length lc) := h.dep 0 _ 25 (by kernel_rfl) rfl rfl
                have f26 : b.tmps.getD 26 undef = (.int .i64 k) := h.dep 1 _ 26 (by kernel_rfl) rfl rfl
                exact good_index (wanted_none rfl) rfl f25 f26 (by simp [go_sem, hkI, hkn]) rfl
              · intro b w' h hE
                have f27 : b.tmps.getD 27 undef = (.pointer (some ⟨ub, uo + k * 5, none⟩)) := h.dep 2 _ 27 (by kernel_rfl) rfl rfl
                exact good_field (wanted_none rfl) rfl f27 (by simp [go_sem]) rfl
              · intro b w' h hE
                have f28 : b.tmps.getD 28 undef = (.pointer (some ⟨ub, uo + k * 5, none⟩)) := h.dep 3 _ 28 (by kernel_rfl) rfl rfl
                have c0 := cell_later h.ext c0h.out
                exact good_load (wanted_none rfl) rfl f28 (by simp [go_sem, c0]) rfl
              · intro b w' h hE
                have f29 : b.tmps.getD 29 undef = (.int .i64 1) := h.dep 4 _ 29 (by kernel_rfl) rfl rfl
                exact good_bin (wanted_none rfl) rfl f29 rfl (by rfl) (by simp [go_sem]) rfl
              · intro b w' h hE
                have f30 : b.tmps.getD 30 undef = (.bool false) := h.dep 5 _ 30 (by kernel_rfl) rfl rfl
                exact good_move (wanted_none rfl) rfl f30
              · intro b w' h hE
                have f31 : b.tmps.getD 31 undef = (.bool false) := h.dep 6 _ 31 (by kernel_rfl) rfl rfl
                refine good_call (wanted_yes rfl rfl f31) rfl (enters Try.func6 (by kernel_rfl) rfl) ?_
                rw [show (#[] : Array Operand).map b.eval = #[] by simp]
                exact (cols_c w').mono fun e w1 ⟨he, hw⟩ => ⟨_, he, ⟨_, rfl, by rw [hw]; exact cols_cw w'⟩, by rw [hw]; exact (Ext.refl _).alloc _⟩
              · intro b w' h hE
                have f31 : b.tmps.getD 31 undef = (.bool false) := h.dep 6 _ 31 (by kernel_rfl) rfl rfl
                have f0 : b.tmps.getD 0 undef = (.slice (some ⟨ub, uo, none⟩) l.length lc) := hE 0 (of_decide_eq_true (by kernel_rfl))
                exact good_move (wanted_yes rfl rfl f31) rfl f0
              · intro b w' h hE
                have f31 : b.tmps.getD 31 undef = (.bool false) := h.dep 6 _ 31 (by kernel_rfl) rfl rfl
                have f4 : b.tmps.getD 4 undef = (.int .i64 k) := hE 4 (of_decide_eq_true (by kernel_rfl))
                exact good_move (wanted_yes rfl rfl f31) rfl f4
              · intro b w' h hE
                have f31 : b.tmps.getD 31 undef = (.bool false) := h.dep 6 _ 31 (by kernel_rfl) rfl rfl
                have f33 : b.tmps.getD 33 undef = (.slice (some ⟨ub, uo, none⟩) l.length lc) := h.dep 8 _ 33 (by kernel_rfl) rfl rfl
                have f34 : b.tmps.getD 34 undef = (.int .i64 k) := h.dep 9 _ 34 (by kernel_rfl) rfl rfl
                exact good_index (wanted_yes rfl rfl f31) rfl f33 f34 (by simp [go_sem, hkI, hkn]) rfl
              · intro b w' h hE
                have f31 : b.tmps.getD 31 undef = (.bool false) := h.dep 6 _ 31 (by kernel_rfl) rfl rfl
                have f35 : b.tmps.getD 35 undef = (.pointer (some ⟨ub, uo + k * 5, none⟩)) := h.dep 10 _ 35 (by kernel_rfl) rfl rfl
                exact good_field (wanted_yes rfl rfl f31) rfl f35 (by simp [go_sem]) rfl
              · intro b w' h hE
                have f31 : b.tmps.getD 31 undef = (.bool false) := h.dep 6 _ 31 (by kernel_rfl) rfl rfl
                have f36 : b.tmps.getD 36 undef = (.pointer (some ⟨ub, uo + k * 5 + 4, none⟩)) := h.dep 11 _ 36 (by kernel_rfl) rfl rfl
                have c0 := cell_later h.ext c4h.out
                exact good_load (wanted_yes rfl rfl f31) rfl f36 (by simp [go_sem, c0]) rfl
              · intro b w' h hE
                have f31 : b.tmps.getD 31 undef = (.bool false) := h.dep 6 _ 31 (by kernel_rfl) rfl rfl
                have f32 : ∃ xb, (b.tmps.getD 32 undef) = .slice (some ⟨xb, 0, none⟩) 1 1 ∧ Cw w' [] (.slice (some ⟨xb, 0, none⟩) 1 1) colA := h.dep 7 _ 32 (by kernel_rfl) rfl rfl
                have f37 : b.tmps.getD 37 undef = (.slice QA pr.length qc) := h.dep 12 _ 37 (by kernel_rfl) rfl rfl
                have g37 : b.tmps[37]?.getD undef = (.slice QA pr.length qc) := by rw [← Array.getD_eq_getD_getElem?]; exact f37
                obtain ⟨xb, ex, hxw⟩ := f32; have g32 : b.tmps[32]?.getD undef = .slice (some ⟨xb, 0, none⟩) 1 1 := (by rw [← Array.getD_eq_getD_getElem?]; exact ex); refine good_call (wanted_yes rfl rfl f31) rfl (enters Try.func5 (by kernel_rfl) rfl) ?_; rw [show (#[.tmp 32, .tmp 37] : Array Operand).map b.eval = #[.slice (some ⟨xb, 0, none⟩) 1 1, .slice QA pr.length qc] by simp [Act.eval, g32, g37]]; exact (hrf.out _ _ hxw (hpq.out w' h.ext)).mono fun e w1 ⟨he, hx⟩ => ⟨_, he, rfl, hx⟩
            · intro b w2 hX2 hd hz he' hf
              have e25 : b.tmps.getD 25 undef = (.slice (some ⟨ub, uo, none⟩) l.length lc) := hf 0 _ 25 (by omega) rfl rfl
              have e26 : b.tmps.getD 26 undef = (.int .i64 k) := hf 1 _ 26 (by omega) rfl rfl
              have e27 : b.tmps.getD 27 undef = (.pointer (some ⟨ub, uo + k * 5, none⟩)) := hf 2 _ 27 (by omega) rfl rfl
              have e28 : b.tmps.getD 28 undef = (.pointer (some ⟨ub, uo + k * 5, none⟩)) := hf 3 _ 28 (by omega) rfl rfl
              have e29 : b.tmps.getD 29 undef = (.int .i64 1) := hf 4 _ 29 (by omega) rfl rfl
              have e30 : b.tmps.getD 30 undef = (.bool false) := hf 5 _ 30 (by omega) rfl rfl
              have e31 : b.tmps.getD 31 undef = (.bool false) := hf 6 _ 31 (by omega) rfl rfl
              have f32 : ∃ xb, (b.tmps.getD 32 undef) = .slice (some ⟨xb, 0, none⟩) 1 1 ∧ Cw w2 [] (.slice (some ⟨xb, 0, none⟩) 1 1) colA := hf 7 _ 32 (by omega) rfl rfl
              have e33 : b.tmps.getD 33 undef = (.slice (some ⟨ub, uo, none⟩) l.length lc) := hf 8 _ 33 (by omega) rfl rfl
              have e34 : b.tmps.getD 34 undef = (.int .i64 k) := hf 9 _ 34 (by omega) rfl rfl
              have e35 : b.tmps.getD 35 undef = (.pointer (some ⟨ub, uo + k * 5, none⟩)) := hf 10 _ 35 (by omega) rfl rfl
              have e36 : b.tmps.getD 36 undef = (.pointer (some ⟨ub, uo + k * 5 + 4, none⟩)) := hf 11 _ 36 (by omega) rfl rfl
              have e37 : b.tmps.getD 37 undef = (.slice QA pr.length qc) := hf 12 _ 37 (by omega) rfl rfl
              have e38 : b.tmps.getD 38 undef = (.bool false) := hf 13 _ 38 (by omega) rfl rfl
              have e := frame_puts hd hz he'
              obtain ⟨X, hXx⟩ : ∃ X : Nat → Value, ∀ d, b.tmps.getD d undef = X d := ⟨_, fun _ => rfl⟩
              rw [hXx] at e25 e26 e27 e28 e29 e30 e31 e33 e34 e35 e36 e37 e38 f32
              obtain ⟨xb, q32, -⟩ := f32
              rw [show dstsOf _ = [25, 26, 27, 28, 29, 30, 31, 32, 33, 34, 35, 36, 37, 38] from rfl] at e
              simp only [List.foldl_cons, List.foldl_nil, hXx, Act.put, List.setIfInBounds_toArray, List.set_cons_succ, List.set_cons_zero] at e
              rw [e25, e26, e27, e28, e29, e30, e31, e33, e34, e35, e36, e37, e38, q32] at e
              clear hf he' hz hd hXx e25 e26 e27 e28 e29 e30 e31 e33 e34 e35 e36 e37 e38 q32
              subst e
              have hzw := hX2.size
              simp only [List.drop_succ_cons, List.drop_zero]
              have hX2h := hide hX2
              go_wp2_with fail
              go_roundg (l.length - (k + 1))
              case measure => omega
              case rel => exact ⟨k + 1, FA, fc, by go_num, by omega, by rw [hft2.out], (by show World.ownsRow _ _ _ _ _ _ _; rw [hft2.out]; exact own_ext ho.out hX2h.out), hX.out.trans hX2h.out⟩
          · have hft2 := hide (show (l.take (k + 1)).filter fitB = F ++ [((.slice QA pr.length qc : Value), (((1, pi, pf, pt), pr) : PM))] from by have := hft.out; simpa using this)
            go_wp2_with fail
            refine wp_region_list_tail 14 [(.is ((.slice (some ⟨ub, uo, none⟩) l.length lc))), (.is ((.int .i64 k))), (.is ((.pointer (some ⟨ub, uo + k * 5, none⟩)))), (.is ((.pointer (some ⟨ub, uo + k * 5, none⟩)))), (.is ((.int .i64 1))), (.is ((.bool false))), (.is ((.bool false))), (.st (fun v w => ∃ xb, v = .slice (some ⟨xb, 0, none⟩) 1 1 ∧ Cw w [] (.slice (some ⟨xb, 0, none⟩) 1 1) colA) (fun v w w' ⟨xb, h1, h2⟩ k => ⟨xb, h1, Sl.ext h2 k⟩)), (.is ((.slice (some ⟨ub, uo, none⟩) l.length lc))), (.is ((.int .i64 k))), (.is ((.pointer (some ⟨ub, uo + k * 5, none⟩)))), (.is ((.pointer (some ⟨ub, uo + k * 5 + 4, none⟩)))), (.is ((.slice QA pr.length qc))), (.is ((.bool true)))] (by kernel_rfl) (by kernel_rfl) (by kernel_rfl) (by kernel_rfl) (by kernel_rfl) (by kernel_rfl) (by kernel_rfl) ?_ ?_
            · refine ⟨?_, ?_, ?_, ?_, ?_, ?_, ?_, ?_, ?_, ?_, ?_, ?_, ?_, ?_, trivial⟩
              · intro b w' h hE
                have f0 : b.tmps.getD 0 undef = (.slice (some ⟨ub, uo, none⟩) l.length lc) := hE 0 (of_decide_eq_true (by kernel_rfl))
                exact good_move (wanted_none rfl) rfl f0
              · intro b w' h hE
                have f4 : b.tmps.getD 4 undef = (.int .i64 k) := hE 4 (of_decide_eq_true (by kernel_rfl))
                exact good_move (wanted_none rfl) rfl f4
              · intro b w' h hE
                have f25 : b.tmps.getD 25 undef = (.slice (some ⟨ub, uo, none⟩) l.length lc) := h.dep 0 _ 25 (by kernel_rfl) rfl rfl
                have f26 : b.tmps.getD 26 undef = (.int .i64 k) := h.dep 1 _ 26 (by kernel_rfl) rfl rfl
                exact good_index (wanted_none rfl) rfl f25 f26 (by simp [go_sem, hkI, hkn]) rfl
              · intro b w' h hE
                have f27 : b.tmps.getD 27 undef = (.pointer (some ⟨ub, uo + k * 5, none⟩)) := h.dep 2 _ 27 (by kernel_rfl) rfl rfl
                exact good_field (wanted_none rfl) rfl f27 (by simp [go_sem]) rfl
              · intro b w' h hE
                have f28 : b.tmps.getD 28 undef = (.pointer (some ⟨ub, uo + k * 5, none⟩)) := h.dep 3 _ 28 (by kernel_rfl) rfl rfl
                have c0 := cell_later h.ext c0h.out
                exact good_load (wanted_none rfl) rfl f28 (by simp [go_sem, c0]) rfl
              · intro b w' h hE
                have f29 : b.tmps.getD 29 undef = (.int .i64 1) := h.dep 4 _ 29 (by kernel_rfl) rfl rfl
                exact good_bin (wanted_none rfl) rfl f29 rfl (by rfl) (by simp [go_sem]) rfl
              · intro b w' h hE
                have f30 : b.tmps.getD 30 undef = (.bool false) := h.dep 5 _ 30 (by kernel_rfl) rfl rfl
                exact good_move (wanted_none rfl) rfl f30
              · intro b w' h hE
                have f31 : b.tmps.getD 31 undef = (.bool false) := h.dep 6 _ 31 (by kernel_rfl) rfl rfl
                refine good_call (wanted_yes rfl rfl f31) rfl (enters Try.func6 (by kernel_rfl) rfl) ?_
                rw [show (#[] : Array Operand).map b.eval = #[] by simp]
                exact (cols_c w').mono fun e w1 ⟨he, hw⟩ => ⟨_, he, ⟨_, rfl, by rw [hw]; exact cols_cw w'⟩, by rw [hw]; exact (Ext.refl _).alloc _⟩
              · intro b w' h hE
                have f31 : b.tmps.getD 31 undef = (.bool false) := h.dep 6 _ 31 (by kernel_rfl) rfl rfl
                have f0 : b.tmps.getD 0 undef = (.slice (some ⟨ub, uo, none⟩) l.length lc) := hE 0 (of_decide_eq_true (by kernel_rfl))
                exact good_move (wanted_yes rfl rfl f31) rfl f0
              · intro b w' h hE
                have f31 : b.tmps.getD 31 undef = (.bool false) := h.dep 6 _ 31 (by kernel_rfl) rfl rfl
                have f4 : b.tmps.getD 4 undef = (.int .i64 k) := hE 4 (of_decide_eq_true (by kernel_rfl))
                exact good_move (wanted_yes rfl rfl f31) rfl f4
              · intro b w' h hE
                have f31 : b.tmps.getD 31 undef = (.bool false) := h.dep 6 _ 31 (by kernel_rfl) rfl rfl
                have f33 : b.tmps.getD 33 undef = (.slice (some ⟨ub, uo, none⟩) l.length lc) := h.dep 8 _ 33 (by kernel_rfl) rfl rfl
                have f34 : b.tmps.getD 34 undef = (.int .i64 k) := h.dep 9 _ 34 (by kernel_rfl) rfl rfl
                exact good_index (wanted_yes rfl rfl f31) rfl f33 f34 (by simp [go_sem, hkI, hkn]) rfl
              · intro b w' h hE
                have f31 : b.tmps.getD 31 undef = (.bool false) := h.dep 6 _ 31 (by kernel_rfl) rfl rfl
                have f35 : b.tmps.getD 35 undef = (.pointer (some ⟨ub, uo + k * 5, none⟩)) := h.dep 10 _ 35 (by kernel_rfl) rfl rfl
                exact good_field (wanted_yes rfl rfl f31) rfl f35 (by simp [go_sem]) rfl
              · intro b w' h hE
                have f31 : b.tmps.getD 31 undef = (.bool false) := h.dep 6 _ 31 (by kernel_rfl) rfl rfl
                have f36 : b.tmps.getD 36 undef = (.pointer (some ⟨ub, uo + k * 5 + 4, none⟩)) := h.dep 11 _ 36 (by kernel_rfl) rfl rfl
                have c0 := cell_later h.ext c4h.out
                exact good_load (wanted_yes rfl rfl f31) rfl f36 (by simp [go_sem, c0]) rfl
              · intro b w' h hE
                have f31 : b.tmps.getD 31 undef = (.bool false) := h.dep 6 _ 31 (by kernel_rfl) rfl rfl
                have f32 : ∃ xb, (b.tmps.getD 32 undef) = .slice (some ⟨xb, 0, none⟩) 1 1 ∧ Cw w' [] (.slice (some ⟨xb, 0, none⟩) 1 1) colA := h.dep 7 _ 32 (by kernel_rfl) rfl rfl
                have f37 : b.tmps.getD 37 undef = (.slice QA pr.length qc) := h.dep 12 _ 37 (by kernel_rfl) rfl rfl
                have g37 : b.tmps[37]?.getD undef = (.slice QA pr.length qc) := by rw [← Array.getD_eq_getD_getElem?]; exact f37
                obtain ⟨xb, ex, hxw⟩ := f32; have g32 : b.tmps[32]?.getD undef = .slice (some ⟨xb, 0, none⟩) 1 1 := (by rw [← Array.getD_eq_getD_getElem?]; exact ex); refine good_call (wanted_yes rfl rfl f31) rfl (enters Try.func5 (by kernel_rfl) rfl) ?_; rw [show (#[.tmp 32, .tmp 37] : Array Operand).map b.eval = #[.slice (some ⟨xb, 0, none⟩) 1 1, .slice QA pr.length qc] by simp [Act.eval, g32, g37]]; exact (hrf.out _ _ hxw (hpq.out w' h.ext)).mono fun e w1 ⟨he, hx⟩ => ⟨_, he, rfl, hx⟩
            · intro b w2 hX2 hd hz he' hf
              have e25 : b.tmps.getD 25 undef = (.slice (some ⟨ub, uo, none⟩) l.length lc) := hf 0 _ 25 (by omega) rfl rfl
              have e26 : b.tmps.getD 26 undef = (.int .i64 k) := hf 1 _ 26 (by omega) rfl rfl
              have e27 : b.tmps.getD 27 undef = (.pointer (some ⟨ub, uo + k * 5, none⟩)) := hf 2 _ 27 (by omega) rfl rfl
              have e28 : b.tmps.getD 28 undef = (.pointer (some ⟨ub, uo + k * 5, none⟩)) := hf 3 _ 28 (by omega) rfl rfl
              have e29 : b.tmps.getD 29 undef = (.int .i64 1) := hf 4 _ 29 (by omega) rfl rfl
              have e30 : b.tmps.getD 30 undef = (.bool false) := hf 5 _ 30 (by omega) rfl rfl
              have e31 : b.tmps.getD 31 undef = (.bool false) := hf 6 _ 31 (by omega) rfl rfl
              have f32 : ∃ xb, (b.tmps.getD 32 undef) = .slice (some ⟨xb, 0, none⟩) 1 1 ∧ Cw w2 [] (.slice (some ⟨xb, 0, none⟩) 1 1) colA := hf 7 _ 32 (by omega) rfl rfl
              have e33 : b.tmps.getD 33 undef = (.slice (some ⟨ub, uo, none⟩) l.length lc) := hf 8 _ 33 (by omega) rfl rfl
              have e34 : b.tmps.getD 34 undef = (.int .i64 k) := hf 9 _ 34 (by omega) rfl rfl
              have e35 : b.tmps.getD 35 undef = (.pointer (some ⟨ub, uo + k * 5, none⟩)) := hf 10 _ 35 (by omega) rfl rfl
              have e36 : b.tmps.getD 36 undef = (.pointer (some ⟨ub, uo + k * 5 + 4, none⟩)) := hf 11 _ 36 (by omega) rfl rfl
              have e37 : b.tmps.getD 37 undef = (.slice QA pr.length qc) := hf 12 _ 37 (by omega) rfl rfl
              have e38 : b.tmps.getD 38 undef = (.bool true) := hf 13 _ 38 (by omega) rfl rfl
              have e := frame_puts hd hz he'
              obtain ⟨X, hXx⟩ : ∃ X : Nat → Value, ∀ d, b.tmps.getD d undef = X d := ⟨_, fun _ => rfl⟩
              rw [hXx] at e25 e26 e27 e28 e29 e30 e31 e33 e34 e35 e36 e37 e38 f32
              obtain ⟨xb, q32, -⟩ := f32
              rw [show dstsOf _ = [25, 26, 27, 28, 29, 30, 31, 32, 33, 34, 35, 36, 37, 38] from rfl] at e
              simp only [List.foldl_cons, List.foldl_nil, hXx, Act.put, List.setIfInBounds_toArray, List.set_cons_succ, List.set_cons_zero] at e
              rw [e25, e26, e27, e28, e29, e30, e31, e33, e34, e35, e36, e37, e38, q32] at e
              clear hf he' hz hd hXx e25 e26 e27 e28 e29 e30 e31 e33 e34 e35 e36 e37 e38 q32
              subst e
              have hzw := hX2.size
              simp only [List.drop_succ_cons, List.drop_zero]
              have z0 := pcell_later hX2 c0h.out
              have z1 := pcell_later hX2 c1h.out
              have z2 := pcell_later hX2 c2h.out
              have z3 := pcell_later hX2 c3h.out
              have z4 := pcell_later hX2 c4h.out
              haveI : In ub w2 := ⟨Nat.lt_of_lt_of_le hbr hX2.size⟩
              have hX2h := hide hX2
              have hzs := hX2.size
              clear hX2
              go_wp2_with (at_builtin; refine wpl_app tMsg rfl (.tmp 40) (.tmp 45) rfl rfl (own_ext ho.out (hX2h.out.alloc _)) rfl (src_msg _ _ _ _ _ _ _ rfl (Ob.new _ _ [_, _, _, _, _])) (by unfold maxLen; omega) (by omega) (by simp only [World.size_alloc]; omega) ?_; intro v1 w1 ho1 hg1 hob1; obtain ⟨A1, cp1, e1⟩ := own_form ho1; subst e1; clear hob1; replace hg1 : World.grownBy _ w1 (Value.slice FA F.length fc).ownBlock := hg1; have hX9 := hide (ext_fr ((hX.out.trans hX2h.out).alloc _) (fr_grown hg1) (fun b hb => (ob_ge ho.out b hb).1)); clear hg1; have h9 := own_one (q := ((.slice QA pr.length qc : Value), (((1, pi, pf, pt), pr) : PM))) ho1; (rw [List.length_append, List.length_singleton] at h9); replace h9 := hide h9; clear ho1)
              go_roundg (l.length - (k + 1))
              case measure => omega
              case rel => exact ⟨k + 1, A1, cp1, by go_num, by omega, by rw [hft2.out, List.length_append, List.length_singleton], (by show World.ownsRow _ _ _ _ _ _ _; rw [hft2.out, List.length_append, List.length_singleton]; exact h9.out), hX9.out⟩
        · have q1 : (pk == 1) = false := by simp [h1]
          have q3 : (pk != 1) = true := by simp [h1]
          have q2 : decide (pk = 1) = false := decide_eq_false h1
          have hfb : fitB ((.slice QA pr.length qc : Value), (((pk, pi, pf, pt), pr) : PM)) = true := by unfold fitB; simp [h1]
          rw [hfb] at hft
          have hft2 := hide (show (l.take (k + 1)).filter fitB = F ++ [((.slice QA pr.length qc : Value), (((pk, pi, pf, pt), pr) : PM))] from by have := hft.out; simpa using this)
          clear c0 c1 c2 c3 c4 hfb
          have c0w := c0h.out
          go_wp2_with fail
          refine wp_region_gw (by kernel_rfl) (by kernel_rfl) ?_
          repeat (go_big_quiet_step (fail))
          refine wpQuiet_nil ?_
          intro g7
          have hX2 := g7.grown
          clear c0w
          have z0 := pcell_later hX2 c0h.out
          have z1 := pcell_later hX2 c1h.out
          have z2 := pcell_later hX2 c2h.out
          have z3 := pcell_later hX2 c3h.out
          have z4 := pcell_later hX2 c4h.out
          haveI : In ub g7.val := ⟨Nat.lt_of_lt_of_le hbr hX2.size⟩
          have hX2h := hide hX2
          have hzs := hX2.size
          clear hX2
          go_wp2_with (at_builtin; refine wpl_app tMsg rfl (.tmp 40) (.tmp 45) rfl rfl (own_ext ho.out (hX2h.out.alloc _)) rfl (src_msg _ _ _ _ _ _ _ rfl (Ob.new _ _ [_, _, _, _, _])) (by unfold maxLen; omega) (by omega) (by simp only [World.size_alloc]; omega) ?_; intro v1 w1 ho1 hg1 hob1; obtain ⟨A1, cp1, e1⟩ := own_form ho1; subst e1; clear hob1; replace hg1 : World.grownBy _ w1 (Value.slice FA F.length fc).ownBlock := hg1; have hX9 := hide (ext_fr ((hX.out.trans hX2h.out).alloc _) (fr_grown hg1) (fun b hb => (ob_ge ho.out b hb).1)); clear hg1; have h9 := own_one (q := ((.slice QA pr.length qc : Value), (((pk, pi, pf, pt), pr) : PM))) ho1; (rw [List.length_append, List.length_singleton] at h9); replace h9 := hide h9; clear ho1)
          go_roundg (l.length - (k + 1))
          case measure => omega
          case rel => exact ⟨k + 1, A1, cp1, by go_num, by omega, by rw [hft2.out, List.length_append, List.length_singleton], (by show World.ownsRow _ _ _ _ _ _ _; rw [hft2.out, List.length_append, List.length_singleton]; exact h9.out), hX9.out⟩
      · obtain rfl : k = l.length := by omega
        have hge : ¬ (l.length : Int) < l.length := by omega
        rw [List.take_length] at ho ⊢
        have hFsub : ∀ q ∈ l.filter fitB, q ∈ l := fun q hq => (List.mem_filter.1 hq).1
        have hFfit : ∀ q ∈ l.filter fitB, fitB q = true := fun q hq => (List.mem_filter.1 hq).2
        have hFl : (l.filter fitB).length ≤ 400 := Nat.le_trans (List.length_filter_le _ _) hs
        generalize l.filter fitB = F at *
        have hFin : ∀ q ∈ F, inM q.2 := fun q hq => hi q (hFsub q hq)
        have hFw := hide (fun W' (hY : Ext wr W') => (⟨Sl.own (own_ext ho.out hY) (by simp), fun q hq => Sl.ext (hrw.out q (hFsub q hq)) (hX.out.trans hY)⟩ : Mw W' [] (.slice FA F.length fc) F))
        have han := hide (fun W' (hY : Ext wr W') => answers_c F _ W' (hFw.out W' hY) hFin (by omega))
        have hRl := runE_len (pms F) (0, [])
        rw [show (pms F).length = F.length by simp [pms]] at hRl
        obtain ⟨W1, hW1⟩ : ∃ W1, W1 = wr.alloc (.cells #[.string ⟨#[97]⟩, .int .i64 1] 58) := ⟨_, rfl⟩
        have hX1 := hide (show Ext wr W1 by rw [hW1]; exact (Ext.refl wr).alloc _)
        have hN := hide (pnew_c colA (.slice (some ⟨wr.heap.size, 0, none⟩) 1 1) W1 (by rw [hW1]; exact cols_cw wr) mayColA (by decide))
        replace hW1 := hide hW1
        obtain ⟨B, hB⟩ : ∃ B, B = W1.heap.size := ⟨_, rfl⟩
        rw [← hB] at hN
        replace hB := hide hB
        clear hat
        go_wp2_with (first
          | (go_at_call 6; refine (cols_c _).mono ?_; rintro ee w1 ⟨rfl, rfl⟩; rw [← hW1.out])
          | (go_at_call 7; refine hN.out.mono ?_; rintro ee w2 ⟨p, mb, rfl, hz2, hX2, hp, hmb⟩; replace hz2 := hide hz2; replace hX2 := hide hX2)
          | (go_at_call 8; refine (han.out _ (hX1.out.trans hX2.out)).mono ?_; rintro ee w3 ⟨v3, rfl, ho3, hX3⟩; rw [hRl] at ho3; have hz3 := hide (hz2.out.ext hX3); have hX13 := hide (hX2.out.trans hX3); obtain ⟨A3, c3, e3⟩ := own_form ho3; subst e3; replace ho3 := hide ho3))
        obtain ⟨FA', fc', eF, -, -, hat2⟩ := mw_form (hFw.out W1 hX1.out)
        cases eF
        replace hat2 := hide hat2
        go_loopg [8] F.length (fun gh iv wq => ∃ (k : Nat), iv = .int .i64 k ∧ k + gh = F.length ∧ Hid (Tkn F B p mb k wq) ∧ Hid (Kq w3 wq) ∧ Hid (Ext W1 wq))
        case atStart => exact ⟨0, rfl, by omega, ⟨0, [], by omega, by simp, PInv.nil, hz3.out, by simp⟩, (fun C T vs o _ _ => o), hX13.out⟩
        case round =>
          obtain ⟨k, rfl, hk, hTk, hKq, hXq⟩ := hrel
          by_cases hkl : k < F.length
          · have hkI : (k : Int) < F.length := by omega
            obtain ⟨q, hq⟩ : ∃ q, F[k]? = some q := ⟨_, List.getElem?_eq_getElem hkl⟩
            obtain ⟨fb, fo, rfl, -, hbl, c0, c1, c2, c3', c4⟩ := hat2.out k q hq
            have hpr := hrw.out q (hFsub q (List.mem_of_getElem? hq))
            have hqf := hFfit q (List.mem_of_getElem? hq)
            have hqi := hFin q (List.mem_of_getElem? hq)
            have hE := runE_at (pms_at hq)
            obtain ⟨pv, ⟨pk, pi, pf, pt⟩, pr⟩ := q
            obtain ⟨QA, qc, eq⟩ := rw_val hpr
            simp only at eq
            subst eq
            have hbq : B ≤ wr.heap.size := by rw [hB.out]; exact hXq.out.size
            have htk := hide (tkn_take hTk.out hFl pk pi pf pt pr (.slice QA pr.length qc) hq hqi hqf (Sl.ext hpr ((hX.out.trans hX1.out).trans hXq.out)) hbq hmb hp)
            have z0 := pcell_later hXq.out c0
            have z1 := pcell_later hXq.out c1
            have z2 := pcell_later hXq.out c2
            have z3 := pcell_later hXq.out c3'
            have z4 := pcell_later hXq.out c4
            haveI : In fb wr := ⟨Nat.lt_of_lt_of_le hbl hXq.out.size⟩
            have hans := hide (fun w5 (hK : Kq wr w5) => pown_ns (own_kq ho3.out (hKq.out.trans hK) (by decide) (by decide)) hkl hE)
            clear c0 c1 c2 c3' c4 hpr hqf hqi hq hE hTk
            simp only at htk hans
            generalize chkD (runS (0, []) ((pms F).take k)) ((pk, pi, pf, pt), pr) = E at *
            go_wp2_with (go_at_call 9; refine htk.out.mono ?_; rintro ee w5 ⟨C1, CA, cn, cc, o1, o2, n1, n2, rfl, hT5, hK5, hB5⟩; obtain ⟨ga, ca, ea, la, xa⟩ := hans.out w5 hK5; cases ea; haveI : In ga w5 := ⟨la⟩; replace hT5 := hide hT5; replace hK5 := hide hK5; replace hB5 := hide hB5)
            have hX5 := hide (show Ext W1 w5 from Below.trans hXq.out (by have := hB5.out; rw [hB.out] at this; exact this))
            go_roundg (F.length - (k + 1))
            case measure => omega
            case rel => exact ⟨k + 1, by go_num, by omega, hT5.out.ext ((Ext.refl w5).alloc _), (hKq.out.trans hK5.out).trans (kq_ext ((Ext.refl w5).alloc _)), hX5.out.trans ((Ext.refl w5).alloc _)⟩
          · obtain rfl : k = F.length := by omega
            have hge2 : ¬ (F.length : Int) < F.length := by omega
            obtain ⟨n, L, -, hLk, hPI, hPz, -⟩ := hTk.out
            rw [show (pms F).take F.length = pms F by rw [List.take_of_length_le]; simp [pms]] at hPI hPz
            obtain ⟨T9, hT9⟩ := runS_inv (pms F)
            have hc0 := hT9.c0.1
            have hSl : (runS (0, []) (pms F)).2.length ≤ 400 := by have h7 := runS_len (pms F) (0, []); simp [pms] at h7 ⊢; omega
            have hcl := cnt_live hPI hc0
            have hev := hide (events_c F _ wr (hFw.out wr (hX1.out.trans hXq.out)) hFin (by omega))
            have hfc := hide (fun W' (hY : Ext wr W') => clock_c F _ W' (hFw.out W' ((hX1.out.trans hXq.out).trans hY)) hFin (by omega))
            generalize runS (0, []) (pms F) = S at *
            obtain ⟨c, hce⟩ : ∃ c, c = S.1 := ⟨_, rfl⟩
            rw [← hce] at hfc hPz hcl hc0
            have hcnt := hide (fun W' (hY : Ext wr W') => pcount_c W' (hPz.ext hY))
            have hclk := hide (fun W' (hY : Ext wr W') => pclock_c W' (hPz.ext hY))
            have hXw := hide ((hX.out.trans hX1.out).trans hXq.out)
            clear hTk hPI hPz hT9 hat2 hFw han hN hz2 hz3 ho ho3 hl hi
            go_wp2_with (go_at_call 10; refine hev.out.mono ?_; rintro ee w6 ⟨v6, M, rfl, hoM, hMs, hX6⟩; have hMl : M.length ≤ 400 := (by have h7 := congrArg List.length hMs; rw [List.length_map] at h7; rw [h7]; exact Nat.le_trans (List.length_filter_le _ _) (by unfold exL; rw [List.length_map]; exact hSl)); rw [← hMs] at hcl; replace hoM := hide hoM; obtain ⟨A6, c6, e6⟩ := OwnX.form hoM.out; subst e6; replace hX6 := hide hX6; clear hMs)
            have hcl2 : (M.filter fun x => decide (c < x.2.2.2)).length = L.length := by rw [← hcl, List.filter_map, List.length_map]; rfl
            clear hcl hev
            go_loopg [11, 13] M.length (fun gh nv iv wr => ∃ (k : Nat), iv = .int .i64 k ∧ k + gh = M.length ∧ nv = .int .i64 (((M.take k).filter fun x => decide (c < x.2.2.2)).length : Int) ∧ Hid (Ext w6 wr))
            case atStart => exact ⟨0, rfl, by omega, rfl, Ext.refl _⟩
            case round =>
              obtain ⟨k, rfl, hk, rfl, hXk⟩ := hrel
              by_cases hkl : k < M.length
              · have hkI : (k : Int) < M.length := by omega
                obtain ⟨x, hx⟩ : ∃ x, M[k]? = some x := ⟨_, List.getElem?_eq_getElem hkl⟩
                obtain ⟨ga, ca, ea, la, xa⟩ := cell_ev (OwnX.ext hoM.out hXk.out) hx
                have hct := hide (cnt_take (fun x : Value × Ex => decide (c < x.2.2.2)) M hx)
                have hnl : ((M.take k).filter fun x => decide (c < x.2.2.2)).length ≤ k := by have h7 := List.length_filter_le (fun x : Value × Ex => decide (c < x.2.2.2)) (M.take k); rw [List.length_take] at h7; omega
                cases ea
                haveI : In ga wr := ⟨la⟩
                obtain ⟨xv, ⟨xi, xr⟩, xf, xt⟩ := x
                simp only at xa hct
                generalize ((M.take k).filter fun x => decide (c < x.2.2.2)).length = N at *
                clear hx
                have hXv := hide (hX6.out.trans hXk.out)
                by_cases hct2 : c < xt
                · have d4 : decide (c < xt) = true := decide_eq_true hct2
                  rw [d4] at hct
                  go_wp2_with fail
                  refine wp_region_gw (by kernel_rfl) (by kernel_rfl) ?_
                  repeat (go_big_quiet_step ((go_at_call 11; with_reducible exact quiet_gw (hclk.out _ (hXv.out.trans (GW.grown _))))))
                  refine wpQuiet_nil ?_
                  intro g4
                  go_wp2_with fail
                  go_roundg (M.length - (k + 1))
                  case measure => omega
                  case rel => exact ⟨k + 1, by go_num, by omega, (by rw [hct.out]; first | go_num | (simp; done) | (simp; go_num)), hXk.out.trans g4.grown⟩
                · have d4 : decide (c < xt) = false := decide_eq_false hct2
                  rw [d4] at hct
                  go_wp2_with fail
                  refine wp_region_gw (by kernel_rfl) (by kernel_rfl) ?_
                  repeat (go_big_quiet_step ((go_at_call 11; with_reducible exact quiet_gw (hclk.out _ (hXv.out.trans (GW.grown _))))))
                  refine wpQuiet_nil ?_
                  intro g4
                  go_wp2_with fail
                  go_roundg (M.length - (k + 1))
                  case measure => omega
                  case rel => exact ⟨k + 1, by go_num, by omega, (by rw [hct.out]; first | go_num | (simp; done) | (simp; go_num)), hXk.out.trans g4.grown⟩
              · obtain rfl : k = M.length := by omega
                have hge3 : ¬ (M.length : Int) < M.length := by omega
                rw [List.take_length, hcl2]
                have hXv := hide (hX6.out.trans hXk.out)
                go_wp2_with (first
                  | (go_at_call 4; (with_reducible refine seq_gw (pastLive_c _) ?_); intro g0)
                  | (go_at_call 12; (with_reducible refine seq_gw (hcnt.out _ (hXv.out.trans g0.grown)) ?_); intro g5)
                  | (go_at_call 11; (with_reducible refine seq_gw (hclk.out _ ((hXv.out.trans g0.grown).trans g5.grown)) ?_); intro g7)
                  | (go_at_call 13; (with_reducible refine seq_gw (hfc.out _ (((hXv.out.trans g0.grown).trans g5.grown).trans g7.grown)) ?_); intro g8))
                go_returns
                exact ⟨by first | rfl | simp, hXw.out.trans ((((hXv.out.trans g0.grown).trans g5.grown).trans g7.grown).trans g8.grown)⟩

  · have d1 : (400 : Int) < l.length := by omega
    obtain ⟨LA, lc, rfl, -⟩ := mw_form hl
    clear hl hi
    go_enter Try.func3, Try.ntmps3
    go_wp2_with (go_at_call 4; (with_reducible refine seq_gw (pastLive_c _) ?_); intro g0)
    go_returns
    exact ⟨by first | rfl | simp, g0.grown⟩
end Go.Proofs.Ytkfdkjjocdbolaa
