/-
  A helper of ours: no claim of its own. Layer 14 (past): the events that are known, by the code.
-/
import Derived.Test.YtajelkkiijdegaaGreatPqS
set_option linter.unusedVariables false
set_option linter.unusedSimpArgs false
namespace Go.Proofs.YtajelkkiijdegaaGreat
open Go.RowKit
attribute [local go_sem] GW.cell GW.frozen In.eq_true In.le_true In.ne In.ne' In.ne_add In.ne_add' In.lt_add Upto.le_true Upto.le_add Upto.lt_add
/-- An event that is known, as a change. -/
def heldC (y : Pb) : Ch := (pSer y, y.1.2.1, (0, 0), y.1.2.2)
section
variable {base p : Nat} {sc : List Cl} {c ser : Int} {mb n : Nat} {L : List Pb}
set_option maxHeartbeats 16000000 in
set_option maxRecDepth 100000 in
theorem pheld_c (w : World) (h : Pz w base p sc c ser mb n L) (hL : L.length ≤ 8192) (hr : ∀ y ∈ L, y.1.2.1.length ≤ 8) : Calls Tryz.prog 16 #[.pointer (some ⟨p, 0, none⟩)] w fun e w' => ∃ (s : List Pb) (v : Value) (M : List (Value × Ch)), e = .returned v ∧ s.Perm L ∧ s.Pairwise (fun a b => pSer a ≤ pSer b) ∧ OwnCh w' w.heap.size v M ∧ M.map Prod.snd = s.map heldC ∧ Ext w w' := by
  obtain ⟨⟨sv, u, hP, hC⟩, hMv, hR⟩ := h
  have c3 := hP.ob.cell 3 rfl
  haveI : In p w := ⟨hP.ob.lt⟩
  have hrow := hide hR
  have hevs := hide hP.evs
  have hsf := hide (fun w' (hX : Ext w w') b (hb : Ob w' b 88 [.map (some mb)]) => psortedFunc_c mb n L b w' (Mv.ext hMv hX) (fun y hy => Ob.ext (hP.evs y hy) hX) hb (by omega))
  clear hP hC hMv hR
  go_enter Tryz.func16, Tryz.ntmps16
  go_wp2_with (first
    | (go_at_call 51; refine (pvalues_c mb _).mono ?_; rintro ee w1 ⟨rfl, hb1, hX1⟩; replace hb1 := hide hb1; replace hX1 := hide hX1)
    | (go_at_call 50; refine (hsf.out w1 hX1.out _ hb1.out).mono ?_; rintro ee w2 ⟨v2, s, rfl, hsp, hss, ho2, hX2⟩; obtain ⟨A2, c2, e2⟩ := own_form ho2; subst e2; have hX12 := hide (hX1.out.trans hX2); replace hsp := hide hsp; replace hss := hide hss; replace ho2 := hide ho2; clear hX2))
  have hsl : s.length ≤ 8192 := by have := hsp.out.length_eq; omega
  have hlm : s.length ≤ c2 ∧ c2 ≤ 9223372036854775807 := by
    rcases ho2.out.2 with ⟨h', h0⟩ | ⟨g, cap, cur, h', -, -, hnc, hcm, -⟩
    · simp only [Value.slice.injEq] at h'; omega
    · simp only [Value.slice.injEq] at h'
      unfold maxLen at hcm
      omega
  go_loopg [3, 15] s.length (fun gh lv iv wr => ∃ (k : Nat) (M : List (Value × Ch)), iv = .int .i64 k ∧ k + gh = s.length ∧ Hid (OwnCh wr w.heap.size lv M) ∧ Hid (M.map Prod.snd = (s.take k).map heldC) ∧ Hid (OwnPe wr 0 (.slice A2 s.length c2) s) ∧ Hid (Ext w wr))
  case atStart => exact ⟨0, [], rfl, by omega, hide (OwnX.nil w2 w.heap.size : OwnCh w2 w.heap.size (.slice none 0 0) []), rfl, hide (own_base ho2.out (Nat.zero_le _)), hX12.out⟩
  case round =>
    obtain ⟨k, M, rfl, hk, hM, hMs, hok, hXk⟩ := hrel
    have hMl : M.length ≤ s.length := by have h9 := congrArg List.length hMs.out; rw [List.length_map, List.length_map, List.length_take] at h9; omega
    obtain ⟨MA, mc, eM⟩ := own_form hM.out.1
    subst eM
    have hbw0 : w.heap.size ≤ wr.heap.size := hXk.out.size
    by_cases hlt : k < s.length
    · have hltI : (k : Int) < s.length := by omega
      have hk0 : (0 : Int) ≤ k := by omega
      obtain ⟨y, hy⟩ : ∃ y, s[k]? = some y := ⟨_, List.getElem?_eq_getElem hlt⟩
      have hst := hide (take_one hy)
      have hyL := hsp.out.mem_iff.1 (List.mem_of_getElem? hy)
      have hev := Ob.ext (hevs.out y hyL) hXk.out
      have hro := RwO.ext (hrow.out y hyL) hXk.out
      have hr8 := hr y hyL
      obtain ⟨g, e2, hgl, cg⟩ : ∃ g, A2 = some ⟨g, 0, none⟩ ∧ g < wr.heap.size ∧ wr.cell? ⟨g, k, none⟩ = some (pp y.2.1) := by
        have ho := hok.out
        rcases ho.2 with ⟨h', h0⟩ | ⟨g, cap, cur, h', hb, hg, -⟩
        · omega
        · simp only [Value.slice.injEq] at h'
          obtain ⟨rfl, -, rfl⟩ := h'
          have hc := World.ownsRow.cellAt ho k (by omega)
          exact ⟨g, rfl, (World.ownsRow.lt ho g rfl).2, by rw [hc]; simp [tg1, blks, hy]⟩
      subst e2
      have hrc := hide (fun w' (hX : Ext wr w') => rowCopy_c y.1.2.1 y.2.2 w' (RwO.rw (hro.ext hX)) (by omega))
      obtain ⟨RA, rc, er⟩ := own_form hro
      have a1 := hide (Ob.cell hev 1 rfl)
      have a2 := hide (Ob.cell hev 2 rfl)
      have a3 := hide (Ob.cell hev 3 rfl)
      have a4 := hide (Ob.cell hev 4 rfl)
      haveI : In y.2.1 wr := ⟨Ob.lt hev⟩
      haveI : In g wr := ⟨hgl⟩
      clear hev hro hyL hy
      obtain ⟨⟨⟨yi, ys⟩, yr, ⟨yf, yt⟩⟩, yb, yv⟩ := y
      simp only at er
      subst er
      replace a1 : Hid (wr.cell? ⟨yb, 1, none⟩ = some (.int .i64 ys)) := a1
      replace a2 : Hid (wr.cell? ⟨yb, 2, none⟩ = some (.slice RA yr.length rc)) := a2
      replace a3 : Hid (wr.cell? ⟨yb, 3, none⟩ = some (.int .i64 yf)) := a3
      replace a4 : Hid (wr.cell? ⟨yb, 4, none⟩ = some (.int .i64 yt)) := a4
      simp only at hrc hr8 cg
      haveI : In yb wr := ‹In _ wr›
      go_wp2_with fail
      refine wp_region_loose_tail 14 [(.is ((.slice MA M.length mc))), (.is ((.pointer (some ⟨yb, 0, none⟩)))), (.is ((.pointer (some ⟨yb, 0, none⟩)))), (.is ((.pointer (some ⟨yb, 1, none⟩)))), (.is ((.int .i64 ys))), (.is ((.pointer (some ⟨yb, 0, none⟩)))), (.is ((.pointer (some ⟨yb, 0, none⟩)))), (.is ((.pointer (some ⟨yb, 2, none⟩)))), (.is ((.slice RA yr.length rc))), (.st (fun v w => RwO w v yr) (fun _ _ _ h k => own_ext h k)), (.is ((.pointer (some ⟨yb, 0, none⟩)))), (.is ((.pointer (some ⟨yb, 0, none⟩)))), (.is ((.pointer (some ⟨yb, 3, none⟩)))), (.is ((.agg #[.int .i64 yf, .int .i64 yt])))] (by kernel_rfl) (by kernel_rfl) (by kernel_rfl) (by kernel_rfl) (by kernel_rfl) (by kernel_rfl) (by kernel_rfl) (by kernel_rfl) (by kernel_rfl) ?_ ?_
      · refine ⟨?_, ?_, ?_, ?_, ?_, ?_, ?_, ?_, ?_, ?_, ?_, ?_, ?_, ?_, trivial⟩
        · intro b w' h hE
          have f3 : b.tmps.getD 3 undef = (.slice MA M.length mc) := hE 3 (of_decide_eq_true (by kernel_rfl))
          exact good_move (wanted_none rfl) rfl f3
        · intro b w' h hE
          have f5 : b.tmps.getD 5 undef = (.pointer (some ⟨yb, 0, none⟩)) := hE 5 (of_decide_eq_true (by kernel_rfl))
          exact good_move (wanted_none rfl) rfl f5
        · intro b w' h hE
          have f20 : b.tmps.getD 20 undef = (.pointer (some ⟨yb, 0, none⟩)) := h.dep 1 _ 20 (by kernel_rfl) rfl rfl
          exact good_nilCheck (wanted_none rfl) rfl f20 rfl
        · intro b w' h hE
          have f21 : b.tmps.getD 21 undef = (.pointer (some ⟨yb, 0, none⟩)) := h.dep 2 _ 21 (by kernel_rfl) rfl rfl
          exact good_field (wanted_none rfl) rfl f21 (by simp [go_sem]) rfl
        · intro b w' h hE
          have f22 : b.tmps.getD 22 undef = (.pointer (some ⟨yb, 1, none⟩)) := h.dep 3 _ 22 (by kernel_rfl) rfl rfl
          have c0 := cell_later h.ext a1.out
          exact good_load (wanted_none rfl) rfl f22 (by simp [go_sem, c0]) rfl
        · intro b w' h hE
          have f5 : b.tmps.getD 5 undef = (.pointer (some ⟨yb, 0, none⟩)) := hE 5 (of_decide_eq_true (by kernel_rfl))
          exact good_move (wanted_none rfl) rfl f5
        · intro b w' h hE
          have f24 : b.tmps.getD 24 undef = (.pointer (some ⟨yb, 0, none⟩)) := h.dep 5 _ 24 (by kernel_rfl) rfl rfl
          exact good_nilCheck (wanted_none rfl) rfl f24 rfl
        · intro b w' h hE
          have f25 : b.tmps.getD 25 undef = (.pointer (some ⟨yb, 0, none⟩)) := h.dep 6 _ 25 (by kernel_rfl) rfl rfl
          exact good_field (wanted_none rfl) rfl f25 (by simp [go_sem]) rfl
        · intro b w' h hE
          have f26 : b.tmps.getD 26 undef = (.pointer (some ⟨yb, 2, none⟩)) := h.dep 7 _ 26 (by kernel_rfl) rfl rfl
          have c0 := cell_later h.ext a2.out
          exact good_load (wanted_none rfl) rfl f26 (by simp [go_sem, c0]) rfl
        · intro b w' h hE
          have f27 : b.tmps.getD 27 undef = (.slice RA yr.length rc) := h.dep 8 _ 27 (by kernel_rfl) rfl rfl
          have g27 : b.tmps[27]?.getD undef = (.slice RA yr.length rc) := by rw [← Array.getD_eq_getD_getElem?]; exact f27
          refine good_call (wanted_none rfl) rfl (enters Tryz.func53 (by kernel_rfl) rfl) ?_
          rw [show (#[.tmp 27] : Array Operand).map b.eval = #[.slice RA yr.length rc] by simp [Act.eval, g27]]
          exact (hrc.out w' h.ext).mono fun e w1 ⟨v1, he, ho, hx⟩ => ⟨v1, he, own_base ho (Nat.zero_le _), hx⟩
        · intro b w' h hE
          have f5 : b.tmps.getD 5 undef = (.pointer (some ⟨yb, 0, none⟩)) := hE 5 (of_decide_eq_true (by kernel_rfl))
          exact good_move (wanted_none rfl) rfl f5
        · intro b w' h hE
          have f29 : b.tmps.getD 29 undef = (.pointer (some ⟨yb, 0, none⟩)) := h.dep 10 _ 29 (by kernel_rfl) rfl rfl
          exact good_nilCheck (wanted_none rfl) rfl f29 rfl
        · intro b w' h hE
          have f30 : b.tmps.getD 30 undef = (.pointer (some ⟨yb, 0, none⟩)) := h.dep 11 _ 30 (by kernel_rfl) rfl rfl
          exact good_field (wanted_none rfl) rfl f30 (by simp [go_sem]) rfl
        · intro b w' h hE
          have f31 : b.tmps.getD 31 undef = (.pointer (some ⟨yb, 3, none⟩)) := h.dep 12 _ 31 (by kernel_rfl) rfl rfl
          have c0 := cell_later h.ext a3.out
          have c1 := cell_later h.ext a4.out
          exact good_load (wanted_none rfl) rfl f31 (by simp [go_sem, c0, c1]) rfl
      · intro b w2 hX2 hd hz he' hf
        have e19 : b.tmps.getD 19 undef = (.slice MA M.length mc) := hf 0 _ 19 (by omega) rfl rfl
        have e20 : b.tmps.getD 20 undef = (.pointer (some ⟨yb, 0, none⟩)) := hf 1 _ 20 (by omega) rfl rfl
        have e21 : b.tmps.getD 21 undef = (.pointer (some ⟨yb, 0, none⟩)) := hf 2 _ 21 (by omega) rfl rfl
        have e22 : b.tmps.getD 22 undef = (.pointer (some ⟨yb, 1, none⟩)) := hf 3 _ 22 (by omega) rfl rfl
        have e23 : b.tmps.getD 23 undef = (.int .i64 ys) := hf 4 _ 23 (by omega) rfl rfl
        have e24 : b.tmps.getD 24 undef = (.pointer (some ⟨yb, 0, none⟩)) := hf 5 _ 24 (by omega) rfl rfl
        have e25 : b.tmps.getD 25 undef = (.pointer (some ⟨yb, 0, none⟩)) := hf 6 _ 25 (by omega) rfl rfl
        have e26 : b.tmps.getD 26 undef = (.pointer (some ⟨yb, 2, none⟩)) := hf 7 _ 26 (by omega) rfl rfl
        have e27 : b.tmps.getD 27 undef = (.slice RA yr.length rc) := hf 8 _ 27 (by omega) rfl rfl
        have f9 : RwO w2 (b.tmps.getD 28 undef) yr := hf 9 _ 28 (by omega) rfl rfl
        have e29 : b.tmps.getD 29 undef = (.pointer (some ⟨yb, 0, none⟩)) := hf 10 _ 29 (by omega) rfl rfl
        have e30 : b.tmps.getD 30 undef = (.pointer (some ⟨yb, 0, none⟩)) := hf 11 _ 30 (by omega) rfl rfl
        have e31 : b.tmps.getD 31 undef = (.pointer (some ⟨yb, 3, none⟩)) := hf 12 _ 31 (by omega) rfl rfl
        have e32 : b.tmps.getD 32 undef = (.agg #[.int .i64 yf, .int .i64 yt]) := hf 13 _ 32 (by omega) rfl rfl
        have e := frame_puts hd hz he'
        obtain ⟨X, hXx⟩ : ∃ X : Nat → Value, ∀ d, b.tmps.getD d undef = X d := ⟨_, fun _ => rfl⟩
        rw [hXx] at e19 e20 e21 e22 e23 e24 e25 e26 e27 e29 e30 e31 e32 f9
        obtain ⟨A28, c28, q28⟩ := own_form f9
        rw [show dstsOf _ = [19, 20, 21, 22, 23, 24, 25, 26, 27, 28, 29, 30, 31, 32] from rfl] at e
        simp only [List.foldl_cons, List.foldl_nil, hXx, Act.put, List.setIfInBounds_toArray, List.set_cons_succ, List.set_cons_zero] at e
        rw [e19, e20, e21, e22, e23, e24, e25, e26, e27, e29, e30, e31, e32, q28] at e
        rw [q28] at f9
        replace f9 := hide f9
        clear hf he' hz hd hXx e19 e20 e21 e22 e23 e24 e25 e26 e27 e29 e30 e31 e32 q28
        subst e
        have hzw := hX2.size
        simp only [List.drop_succ_cons, List.drop_zero]
        have hMx := hM.out.ext hX2
        have hbw := Nat.le_trans hbw0 hX2.size
        replace hX2 := hide hX2
        replace hMx := hide hMx
        go_wp2_with (at_builtin; (refine wpl_app tChs rfl (.tmp 19) (.tmp 34) rfl rfl (own_ext hMx.out.1 ((Ext.refl w2).alloc (.cells (chO (.slice A28 yr.length c28) ((ys : Nat), yr, ((0 : Int), (0 : Int)), (yf, yt))).toArray 39))) rfl (src_sl Tryz.underlying53 (chO_new (.slice A28 yr.length c28) ((ys : Nat), yr, ((0 : Int), (0 : Int)), (yf, yt)) w2) chO_one (by omega)) (by unfold maxLen; omega) (by omega) (by simp only [World.size_alloc]; omega) ?_; intro v3 w3 ho3 hg3 hd3; replace hg3 : World.grownBy _ w3 (Value.slice MA M.length mc).ownBlock := hg3; have hN3 := hide ((hMx.out.ext ((Ext.refl w2).alloc (.cells (chO (.slice A28 yr.length c28) ((ys : Nat), yr, ((0 : Int), (0 : Int)), (yf, yt))).toArray 39))).app (M := [((.slice A28 yr.length c28 : Value), (((ys : Nat), yr, ((0 : Int), (0 : Int)), (yf, yt)) : Ch))]) (by decide) (by simpa using ho3) hg3 (by intro p hp; rw [List.mem_singleton.1 hp]; exact f9.out.ext ((Ext.refl w2).alloc _))); have hX3 := hide (ext_grown ((hXk.out.trans hX2.out).alloc (.cells (chO (.slice A28 yr.length c28) ((ys : Nat), yr, ((0 : Int), (0 : Int)), (yf, yt))).toArray 39)) hg3 (fun b hb => (hM.out.1.lt b hb).1)); have ho3k := hide (own_stay (own_ext hok.out (hX2.out.alloc (.cells (chO (.slice A28 yr.length c28) ((ys : Nat), yr, ((0 : Int), (0 : Int)), (yf, yt))).toArray 39))) (fr_grown hg3) (own_nt (own_ext hMx.out.1 ((Ext.refl w2).alloc (.cells (chO (.slice A28 yr.length c28) ((ys : Nat), yr, ((0 : Int), (0 : Int)), (yf, yt))).toArray 39))) (by decide))); obtain ⟨A3, c3, q3⟩ := own_form ho3; subst q3; clear ho3 hg3 hd3))
        dsimp only [onN, Exit.then, Exit.inBlock]
        go_wp2_with fail
        go_roundg (s.length - (k + 1))
        case measure => omega
        case rel => exact ⟨k + 1, M ++ [((.slice A28 yr.length c28 : Value), (((ys : Nat), yr, ((0 : Int), (0 : Int)), (yf, yt)) : Ch))], by go_num, by omega, by first | exact hN3 | (rw [List.length_append] at *; exact hN3), by rw [List.map_append, hMs.out, hst.out, List.map_append]; rfl, ho3k, hX3⟩
    · obtain rfl : k = s.length := by omega
      have hge : ¬ (s.length : Int) < s.length := by omega
      rw [List.take_length] at hMs
      go_wp2_with fail
      go_returns
      exact ⟨s, _, rfl, hsp.out, hss.out, M, hM.out, hMs.out, hXk.out⟩
end
end Go.Proofs.YtajelkkiijdegaaGreat
