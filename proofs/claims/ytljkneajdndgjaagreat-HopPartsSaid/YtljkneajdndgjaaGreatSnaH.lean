/-
  A helper of ours: no claim of its own. Layer 27 (snap): the snapshots by the document; and the walk of the law SnapParts.
-/
import Derived.Test.YtljkneajdndgjaaGreatSnaP
set_option linter.unusedVariables false
set_option linter.unusedSimpArgs false
namespace Go.Proofs.YtljkneajdndgjaaGreat
open Go.RowKit
attribute [local go_sem] GW.cell GW.frozen In.eq_true In.le_true In.ne In.ne' In.ne_add In.ne_add' In.lt_add Upto.le_true Upto.le_add Upto.lt_add
/-- Rows that are there at a tick; a part of them up to the end. -/
def alF (L : List Ve) (G : List Gp) (t : Int) (B : Nat) (v : Value) (w : World) : Prop := ∃ C, cps C = alG G t ∧ DC L w B v C
theorem alF.ext {L : List Ve} {w w' : World} {G : List Gp} {t : Int} {B : Nat} {v : Value} (h : alF L G t B v w) (k : Ext w w') : alF L G t B v w' := by obtain ⟨C, h1, h2⟩ := h; exact ⟨C, h1, h2.ext k⟩
def alP (L : List Ve) (G : List Gp) (t : Int) (B : Nat) (v : Value) (w : World) : Prop := ∃ A n c, v = .agg #[.int .i64 t, .int .i64 1125899906842624, .slice A n c] ∧ ∃ C, cps C = alG G t ∧ DC L w B (.slice A n c) C
theorem alP.ext {L : List Ve} {w w' : World} {G : List Gp} {t : Int} {B : Nat} {v : Value} (h : alP L G t B v w) (k : Ext w w') : alP L G t B v w' := by obtain ⟨A, n, c, e, C, h1, h2⟩ := h; exact ⟨A, n, c, e, C, h1, h2.ext k⟩
/-- A part of zero, made here. -/
def ptP (B : Nat) (v : Value) (w : World) : Prop := ∃ p, v = .pointer (some ⟨p, 0, none⟩) ∧ B ≤ p ∧ Ob w p 52 [.int .i64 0, .int .i64 0, .slice none 0 0]
theorem ptP.ext {B : Nat} {v : Value} {w w' : World} (h : ptP B v w) (k : Ext w w') : ptP B v w' := by obtain ⟨p, e, hb, ho⟩ := h; exact ⟨p, e, hb, ho.ext k⟩
set_option maxHeartbeats 16000000 in
set_option maxRecDepth 100000 in
theorem refSnParts_c (L : List Ve) (hLs : L.length ≤ 1000) (f : Int) (v : Value) (w : World) (hC : Ew w [] v L) : Calls Tryz.prog 42 #[v, .int .i64 f] w fun e w' => ∃ v' P, e = .returned (.tuple #[v', .int .i64 (snE (eds L) f)]) ∧ pts P = snL (eds L) f ∧ Pw w' [] v' P ∧ Ext w w' := by
  have hcu := hide (refCuts_c L (by omega) f v w hC)
  have hcl := cuL_len (eds L) f
  rw [show (eds L).length = L.length from List.length_map _] at hcl
  have hC' := hide hC
  obtain ⟨A, cap, rfl, hlc, hlm, -⟩ := ew_form hC
  clear hC
  obtain ⟨E, hE⟩ : ∃ E, E = cuE (eds L) f := ⟨_, rfl⟩
  obtain ⟨c, hc⟩ : ∃ c, c = cuL (eds L) f := ⟨_, rfl⟩
  rw [← hc] at hcl
  rw [← hE, ← hc] at hcu
  by_cases hE0 : E = 0
  case neg =>
    have e1 : snE (eds L) f = E := by unfold snE; rw [← hE, if_neg hE0]
    have e2 : snL (eds L) f = [] := by unfold snL; rw [e1, if_neg hE0]
    rw [e1, e2]
    have hb : (E == 0) = false := by simpa using hE0
    have hb2 : (E != 0) = true := by simpa using hE0
    replace hE := hide hE
    replace hc := hide hc
    clear e1 e2
    go_enter Tryz.func42, Tryz.ntmps42
    go_wp2_with (go_at_call 95; refine hcu.out.mono ?_; rintro ee w1 ⟨v1, rfl, ho1, hX1⟩; have hX2 := hide hX1; clear ho1 hX1)
    go_returns
    exact ⟨_, [], rfl, rfl, ⟨Sl.nil _ _ _, by simp⟩, hX2.out⟩
  subst hE0
  obtain ⟨hm, -, -⟩ := cuE_zero.1 hE.symm
  have hal0 := hide (fun t w' (hX : Ext w w') => refAliveO_c L hm t (.slice A L.length cap) w' (hC'.out.ext hX))
  have eE : snE (eds L) f = if 1024 < (snT (eds L) f).length then 7 else 0 := by unfold snE; rw [← hE, if_pos rfl]
  have eT : snT (eds L) f = paG (grp (eds L)) (spC c) := by unfold snT; rw [← hc]
  obtain ⟨EE, hEE⟩ : ∃ EE, EE = snE (eds L) f := ⟨_, rfl⟩
  obtain ⟨RR, hRR⟩ : ∃ RR, RR = snL (eds L) f := ⟨_, rfl⟩
  rw [← hEE, ← hRR]
  unfold snL at hRR
  rw [← hEE, eT] at hRR
  rw [eE, eT] at hEE
  obtain ⟨G, hG⟩ : ∃ G, G = grp (eds L) := ⟨_, rfl⟩
  rw [← hG] at hal0 hRR hEE
  replace hEE := hide hEE
  replace hRR := hide hRR
  have hG' := hide hG
  clear hE hc eE eT hG
  have hspl := spC_len c
  go_enter Tryz.func42, Tryz.ntmps42
  go_wp2_with (go_at_call 95; refine hcu.out.mono ?_; rintro ee w1 ⟨v1, rfl, ho1, hX1⟩; have hX2 := hide hX1; have hZ1 := hide ho1; obtain ⟨CA, ccap, q1, -, -, -⟩ := zw_form ho1; subst q1; clear ho1 hX1)
  have hz0 : (w1.alloc (.cells #[] 52)).ownsRow w1.heap.size 52 3 (.slice (some ⟨w1.heap.size, 0, none⟩) 0 0) 0 [] := World.ownsRow_lit (base := w1.heap.size) (e := 52) (size := 3) w1 #[] 0 (Nat.le_refl _) (by decide) rfl
  have hzw : w.heap.size ≤ w1.heap.size := hX2.out.size
  have hz1 := hide hz0
  clear hz0
  go_loopg [8, 9] c.length (fun gh u i wr => ∃ (k : Nat) (P : List Vp), i = .int .i64 k ∧ k + gh = c.length ∧ Hid (wr.ownsRow w1.heap.size 52 3 u P.length (pt P) ∧ ∀ p ∈ P, DC L wr w1.heap.size p.1 p.2.2) ∧ Hid (pts P = paG G ((spC c).take k)) ∧ P.length ≤ k ∧ Hid (Ext w1 wr))
  case atStart => exact ⟨0, [], by go_num, by omega, ⟨hz1.out, by intro p hp; cases hp⟩, rfl, by simp, (Ext.refl w1).alloc _⟩
  case round =>
    clear hz1
    obtain ⟨k, P, rfl, hk, hO, hpt, hPl, hX⟩ := hrel
    obtain ⟨PA, pcap, rfl⟩ := own_form hO.out.1
    by_cases hlt : k < c.length
    · obtain ⟨t, ht⟩ : ∃ t, c[k]? = some t := ⟨_, List.getElem?_eq_getElem hlt⟩
      have hZ := hide (Sl.ext hZ1.out hX.out)
      obtain ⟨A', cp', e', -, -, hat⟩ := zw_form hZ.out
      simp only [Value.slice.injEq] at e'
      obtain ⟨rfl, -, rfl⟩ := e'
      obtain ⟨bk, o, rfl, -, hbl, c0⟩ := hat k t ht
      haveI : In bk wr := ⟨hbl⟩
      have q0 := hide c0
      have hnx := paG_next (G := G) (spC_at c k t ht)
      have hwr := (hX2.out.trans hX.out)
      have hzc2 : w1.heap.size ≤ wr.heap.size := hX.out.size
      have hal := hide (fun w' (hX' : Ext wr w') => (hal0.out t w' (hwr.trans hX')).mono fun e w1 ⟨v', C, h1, h2, h3, h4⟩ => (⟨v', h1, ⟨C, h2, h3.base hX'.size⟩, h4⟩ : ∃ v1, e = Ending.returned v1 ∧ alF L G t wr.heap.size v1 w1 ∧ Ext w' w1))
      clear hat ht hwr c0
      go_wp2_with fail
      refine wp_region_list_tail 13 [(.is ((.slice (some ⟨bk, o, none⟩) c.length ccap))), (.is ((.int .i64 k))), (.is ((.pointer (some ⟨bk, o + k, none⟩)))), (.is ((.int .i64 t))), (.is ((.agg #[.int .i64 t, .int .i64 1125899906842624]))), (.is ((.slice A L.length cap))), (.is ((.slice (some ⟨bk, o, none⟩) c.length ccap))), (.is ((.int .i64 k))), (.is ((.pointer (some ⟨bk, o + k, none⟩)))), (.is ((.int .i64 t))), (.st (alF L G t wr.heap.size) (fun _ _ _ h k => h.ext k)), (.st (alP L G t wr.heap.size) (fun _ _ _ h k => h.ext k)), (.st (ptP wr.heap.size) (fun _ _ _ h k => h.ext k))] (by kernel_rfl) (by kernel_rfl) (by kernel_rfl) (by kernel_rfl) (by kernel_rfl) (by kernel_rfl) (by kernel_rfl) ?_ ?_
      · refine ⟨?_, ?_, ?_, ?_, ?_, ?_, ?_, ?_, ?_, ?_, ?_, ?_, ?_, trivial⟩
        · intro b w' h hE
          have f6 : b.tmps.getD 6 undef = (.slice (some ⟨bk, o, none⟩) c.length ccap) := hE 6 (of_decide_eq_true (by kernel_rfl))
          exact good_move (wanted_none rfl) rfl f6
        · intro b w' h hE
          have f9 : b.tmps.getD 9 undef = (.int .i64 k) := hE 9 (of_decide_eq_true (by kernel_rfl))
          exact good_move (wanted_none rfl) rfl f9
        · intro b w' h hE
          have f27 : b.tmps.getD 27 undef = (.slice (some ⟨bk, o, none⟩) c.length ccap) := h.dep 0 _ 27 (by kernel_rfl) rfl rfl
          have f28 : b.tmps.getD 28 undef = (.int .i64 k) := h.dep 1 _ 28 (by kernel_rfl) rfl rfl
          exact good_index (wanted_none rfl) rfl f27 f28 (by simp [go_sem, hlt]) rfl
        · intro b w' h hE
          have f29 : b.tmps.getD 29 undef = (.pointer (some ⟨bk, o + k, none⟩)) := h.dep 2 _ 29 (by kernel_rfl) rfl rfl
          have c0 := cell_later h.ext q0.out
          exact good_load (wanted_none rfl) rfl f29 (by simp [go_sem, c0]) rfl
        · intro b w' h hE
          have f30 : b.tmps.getD 30 undef = (.int .i64 t) := h.dep 3 _ 30 (by kernel_rfl) rfl rfl
          have g30 : b.tmps[30]?.getD undef = (.int .i64 t) := by rw [← Array.getD_eq_getD_getElem?]; exact f30
          exact good_run (wanted_none rfl) (by simp [execOp, Act.eval, go_sem, g30, Sem.run_bind, Sem.run_pure, Result.andThen_ok]) rfl
        · intro b w' h hE
          have f0 : b.tmps.getD 0 undef = (.slice A L.length cap) := hE 0 (of_decide_eq_true (by kernel_rfl))
          exact good_move (wanted_none rfl) rfl f0
        · intro b w' h hE
          have f6 : b.tmps.getD 6 undef = (.slice (some ⟨bk, o, none⟩) c.length ccap) := hE 6 (of_decide_eq_true (by kernel_rfl))
          exact good_move (wanted_none rfl) rfl f6
        · intro b w' h hE
          have f9 : b.tmps.getD 9 undef = (.int .i64 k) := hE 9 (of_decide_eq_true (by kernel_rfl))
          exact good_move (wanted_none rfl) rfl f9
        · intro b w' h hE
          have f33 : b.tmps.getD 33 undef = (.slice (some ⟨bk, o, none⟩) c.length ccap) := h.dep 6 _ 33 (by kernel_rfl) rfl rfl
          have f34 : b.tmps.getD 34 undef = (.int .i64 k) := h.dep 7 _ 34 (by kernel_rfl) rfl rfl
          exact good_index (wanted_none rfl) rfl f33 f34 (by simp [go_sem, hlt]) rfl
        · intro b w' h hE
          have f35 : b.tmps.getD 35 undef = (.pointer (some ⟨bk, o + k, none⟩)) := h.dep 8 _ 35 (by kernel_rfl) rfl rfl
          have c0 := cell_later h.ext q0.out
          exact good_load (wanted_none rfl) rfl f35 (by simp [go_sem, c0]) rfl
        · intro b w' h hE
          have f32 : b.tmps.getD 32 undef = (.slice A L.length cap) := h.dep 5 _ 32 (by kernel_rfl) rfl rfl
          have g32 : b.tmps[32]?.getD undef = (.slice A L.length cap) := by rw [← Array.getD_eq_getD_getElem?]; exact f32
          have f36 : b.tmps.getD 36 undef = (.int .i64 t) := h.dep 9 _ 36 (by kernel_rfl) rfl rfl
          have g36 : b.tmps[36]?.getD undef = (.int .i64 t) := by rw [← Array.getD_eq_getD_getElem?]; exact f36
          refine good_call (wanted_none rfl) rfl (enters Tryz.func96 (by kernel_rfl) rfl) ?_
          rw [show (#[.tmp 32, .tmp 36] : Array Operand).map b.eval = #[.slice A L.length cap, .int .i64 t] by simp [Act.eval, g32, g36]]
          exact (hal.out w' h.ext).mono fun e w1 ⟨v1, he, ho, hx⟩ => ⟨v1, he, ho, hx⟩
        · intro b w' h hE
          have f31 : b.tmps.getD 31 undef = (.agg #[.int .i64 t, .int .i64 1125899906842624]) := h.dep 4 _ 31 (by kernel_rfl) rfl rfl
          have g31 : b.tmps[31]?.getD undef = (.agg #[.int .i64 t, .int .i64 1125899906842624]) := by rw [← Array.getD_eq_getD_getElem?]; exact f31
          have f37 : alF L G t wr.heap.size (b.tmps.getD 37 undef) w' := h.dep 10 _ 37 (by kernel_rfl) rfl rfl
          obtain ⟨C37, hC37, hw37⟩ := f37
          obtain ⟨A37, c37, q37⟩ := own_form hw37.1
          rw [q37] at hw37
          have g37 : b.tmps[37]?.getD undef = .slice A37 C37.length c37 := by rw [← Array.getD_eq_getD_getElem?]; exact q37
          exact good_run (wanted_none rfl) (v := .agg #[.int .i64 t, .int .i64 1125899906842624, .slice A37 C37.length c37]) (by simp [execOp, Act.eval, go_sem, g31, g37, Sem.run_bind, Sem.run_pure, Result.andThen_ok]) ⟨_, _, _, rfl, C37, hC37, hw37⟩
        · intro b w' h hE
          exact good_grow (w' := w'.alloc (.cells #[.int .i64 0, .int .i64 0, .slice none 0 0] 52)) (v := .pointer (some ⟨w'.heap.size, 0, none⟩)) (wanted_none rfl) (by simp [execOp, go_sem, Sem.run_bind, Sem.run_pure, Result.andThen_ok]) ⟨_, rfl, h.ext.size, Ob.new w' _ [_, _, _]⟩ ((Ext.refl _).alloc _)
      · intro b w2 hX2 hd hz he' hf
        have e27 : b.tmps.getD 27 undef = (.slice (some ⟨bk, o, none⟩) c.length ccap) := hf 0 _ 27 (by omega) rfl rfl
        have e28 : b.tmps.getD 28 undef = (.int .i64 k) := hf 1 _ 28 (by omega) rfl rfl
        have e29 : b.tmps.getD 29 undef = (.pointer (some ⟨bk, o + k, none⟩)) := hf 2 _ 29 (by omega) rfl rfl
        have e30 : b.tmps.getD 30 undef = (.int .i64 t) := hf 3 _ 30 (by omega) rfl rfl
        have e31 : b.tmps.getD 31 undef = (.agg #[.int .i64 t, .int .i64 1125899906842624]) := hf 4 _ 31 (by omega) rfl rfl
        have e32 : b.tmps.getD 32 undef = (.slice A L.length cap) := hf 5 _ 32 (by omega) rfl rfl
        have e33 : b.tmps.getD 33 undef = (.slice (some ⟨bk, o, none⟩) c.length ccap) := hf 6 _ 33 (by omega) rfl rfl
        have e34 : b.tmps.getD 34 undef = (.int .i64 k) := hf 7 _ 34 (by omega) rfl rfl
        have e35 : b.tmps.getD 35 undef = (.pointer (some ⟨bk, o + k, none⟩)) := hf 8 _ 35 (by omega) rfl rfl
        have e36 : b.tmps.getD 36 undef = (.int .i64 t) := hf 9 _ 36 (by omega) rfl rfl
        have f37 : alF L G t wr.heap.size (b.tmps.getD 37 undef) w2 := hf 10 _ 37 (by omega) rfl rfl
        have f38 : alP L G t wr.heap.size (b.tmps.getD 38 undef) w2 := hf 11 _ 38 (by omega) rfl rfl
        have f10 : ptP wr.heap.size (b.tmps.getD 10 undef) w2 := hf 12 _ 10 (by omega) rfl rfl
        have e := frame_puts hd hz he'
        obtain ⟨X, hXx⟩ : ∃ X : Nat → Value, ∀ d, b.tmps.getD d undef = X d := ⟨_, fun _ => rfl⟩
        rw [hXx] at e27 e28 e29 e30 e31 e32 e33 e34 e35 e36 f37 f38 f10
        obtain ⟨C37, hC37, hw37⟩ := f37
        obtain ⟨A37, c37, q37⟩ := own_form hw37.1
        obtain ⟨A38, n38, c38, q38, C38, hC38, hw38⟩ := f38
        obtain ⟨pb, q10, hpge, hpb0⟩ := f10
        rw [show dstsOf _ = [27, 28, 29, 30, 31, 32, 33, 34, 35, 36, 37, 38, 10] from rfl] at e
        simp only [List.foldl_cons, List.foldl_nil, hXx, Act.put, List.setIfInBounds_toArray, List.set_cons_succ, List.set_cons_zero] at e
        rw [e27, e28, e29, e30, e31, e32, e33, e34, e35, e36, q37, q38, q10] at e
        clear hf he' hz hd hXx e27 e28 e29 e30 e31 e32 e33 e34 e35 e36 q37 q38 q10
        subst e
        have hzw := hX2.size
        simp only [List.drop_succ_cons, List.drop_zero]
        have hlp := hpb0.lt
        have i9 : In pb w2 := ⟨hlp⟩
        have z0 := hpb0.cell 0 rfl
        have z1 := hpb0.cell 1 rfl
        have z2 := hpb0.cell 2 rfl
        have y0 := hpb0.free 0
        have y1 := hpb0.free 1
        have y2 := hpb0.free 2
        go_upto_region 9 with (fail)
        have hF5 : Fr [pb] w2 (((w2.setCell ⟨pb, 0, none⟩ (.int .i64 t)).setCell ⟨pb, 1, none⟩ (.int .i64 1125899906842624)).setCell ⟨pb, 2, none⟩ (.slice A38 n38 c38)) := (((Fr.refl [pb] w2).setCell ⟨pb, 0, none⟩ _ (.inl (by simp))).setCell ⟨pb, 1, none⟩ _ (.inl (by simp))).setCell ⟨pb, 2, none⟩ _ (.inl (by simp))
        have hb5 : Ob (((w2.setCell ⟨pb, 0, none⟩ (.int .i64 t)).setCell ⟨pb, 1, none⟩ (.int .i64 1125899906842624)).setCell ⟨pb, 2, none⟩ (.slice A38 n38 c38)) pb 52 [.int .i64 t, .int .i64 1125899906842624, .slice A38 n38 c38] := ((hpb0.set 0 _).set 1 _).set 2 _
        have hX5 : Ext wr (((w2.setCell ⟨pb, 0, none⟩ (.int .i64 t)).setCell ⟨pb, 1, none⟩ (.int .i64 1125899906842624)).setCell ⟨pb, 2, none⟩ (.slice A38 n38 c38)) := ((hX2.setCell (p := ⟨pb, 0, none⟩) hpge _).setCell (p := ⟨pb, 1, none⟩) hpge _).setCell (p := ⟨pb, 2, none⟩) hpge _
        have hw5 := hw38.away hF5 (fun y hy h2 => by rw [List.mem_singleton] at hy; subst hy; obtain ⟨cs, cn, hc⟩ := own_kind hw38.1 h2; exact no_kind hc (by decide) _ _ hpb0)
        generalize (((w2.setCell ⟨pb, 0, none⟩ (.int .i64 t)).setCell ⟨pb, 1, none⟩ (.int .i64 1125899906842624)).setCell ⟨pb, 2, none⟩ (.slice A38 n38 c38)) = w5 at *
        clear hF5 z0 z1 z2 y0 y1 y2 hpb0 hX2 hw38
        have i5 : In pb w5 := ⟨hb5.lt⟩
        replace hX5 := hide hX5
        obtain ⟨nx, hnxe⟩ : ∃ nx, nx = (c[k + 1]?).getD 1125899906842624 := ⟨_, rfl⟩
        rw [← hnxe] at hnx
        have hpn : n38 = C38.length := by
          obtain ⟨a, b', e'⟩ := own_form hw5.1
          simp only [Value.slice.injEq] at e'
          exact e'.2.1
        subst hpn
        have hw39 := hide hw5
        clear hw5
        have hCe : cps C38 = alG G t := hC38
        have hCl : alG G t = [] ↔ C38.length = 0 := by
          rw [← hCe]
          simp
        replace hCe := hide hCe
        have hcz := (zw_form (Sl.ext hZ.out hX5.out))
        by_cases hlast : k + 1 < c.length
        · obtain ⟨y, hy⟩ : ∃ y, c[k + 1]? = some y := ⟨_, List.getElem?_eq_getElem hlast⟩
          have hny : nx = y := by rw [hnxe, hy]; rfl
          subst hny
          obtain ⟨A', cp', e', -, -, hat2⟩ := hcz
          simp only [Value.slice.injEq] at e'
          obtain ⟨hA2, -, -⟩ := e'
          obtain ⟨b2, o2, hA3, -, hb2l, cy⟩ := hat2 (k + 1) nx hy
          rw [hA3] at hA2
          simp only [Option.some.injEq, Addr.mk.injEq] at hA2
          obtain ⟨rfl, rfl, -⟩ := hA2
          have hnl : ((k : Int) + 1 < (c.length : Int)) := by omega
          have i2 : In bk w5 := ⟨hb2l⟩
          have hlp5 := hb5.lt
          have k0 := hb5.cell 0 rfl
          have k1 := hb5.cell 1 rfl
          have k2 := hb5.cell 2 rfl
          have y1 := hb5.free 1
          replace hnxe := hide hnxe
          clear hat2 hy
          by_cases hem : alG G t = []
          · rw [if_pos hem, List.append_nil] at hnx
            have hn0 : ¬ (0 : Int) < (C38.length : Int) := by have := hCl.1 hem; omega
            have hXz := hide (show Ext wr (w5.setCell ⟨pb, 1, none⟩ (.int .i64 nx)) from hX5.out.setCell (p := ⟨pb, 1, none⟩) hpge _)
            have hO9 := hide (own_ext hO.out.1 hXz.out)
            have hOb1 : Ob (w5.setCell ⟨pb, 1, none⟩ (.int .i64 nx)) pb 52 [.int .i64 t, .int .i64 nx, .slice A38 C38.length c38] := hb5.set 1 _
            have m0 := hOb1.cell 0 rfl
            have m1 := hOb1.cell 1 rfl
            have m2 := hOb1.cell 2 rfl
            go_wp2_with fail
            go_roundg (c.length - (k + 1))
            case measure => omega
            case rel => exact ⟨k + 1, P, by go_num, by omega, ⟨hO9.out, fun p hp => (hO.out.2 p hp).ext hXz.out⟩, (by show _ = _; rw [hnx]; exact hpt.out), by omega, hX.out.trans hXz.out⟩
          · rw [if_neg hem] at hnx
            have hn0 : (0 : Int) < (C38.length : Int) := by have : C38.length ≠ 0 := fun h => hem (hCl.2 h); omega
            have hXz := hide (show Ext wr (w5.setCell ⟨pb, 1, none⟩ (.int .i64 nx)) from hX5.out.setCell (p := ⟨pb, 1, none⟩) hpge _)
            have hO9 := hide (own_ext hO.out.1 hXz.out)
            have hOb1 : Ob (w5.setCell ⟨pb, 1, none⟩ (.int .i64 nx)) pb 52 [.int .i64 t, .int .i64 nx, .slice A38 C38.length c38] := hb5.set 1 _
            have m0 := hOb1.cell 0 rfl
            have m1 := hOb1.cell 1 rfl
            have m2 := hOb1.cell 2 rfl
            have hsrc0 := (src_sl Tryz.underlying34 (sl_lit (w5.setCell ⟨pb, 1, none⟩ (.int .i64 nx)) 52 3 [.int .i64 t, .int .i64 nx, .slice A38 C38.length c38] rfl) (by intro u hu; simp only [List.mem_cons, List.not_mem_nil, or_false] at hu; rcases hu with rfl | rfl | rfl <;> rfl) (by omega))
            rw [show (w5.setCell ⟨pb, 1, none⟩ (.int .i64 nx)).heap.size = w5.heap.size by simp] at hsrc0
            have hsrc := hide hsrc0
            clear hsrc0
            have hbs := hide (own_ext hO9.out ((Ext.refl (w5.setCell ⟨pb, 1, none⟩ (.int .i64 nx))).alloc (.cells #[.int .i64 t, .int .i64 nx, .slice A38 C38.length c38] 52)))
            have hbz := hide (Nat.le_trans hzc2 (Nat.le_trans hXz.out.size ((Ext.refl (w5.setCell ⟨pb, 1, none⟩ (.int .i64 nx))).alloc (.cells #[.int .i64 t, .int .i64 nx, .slice A38 C38.length c38] 52)).size))
            go_wp2_with (at_builtin; (refine wpl_app tPa rfl (.tmp 55) (.tmp 57) rfl rfl hbs.out rfl hsrc.out (by unfold maxLen; omega) (by omega) hbz.out ?_; intro v8 w8 ho8 hg8 hob8; have ho9 := hide ho8; have hg9 := hide hg8; obtain ⟨A8, c8, q8⟩ := own_form ho8; subst q8; clear ho8 hg8 hob8))
            have hF9 : Fr (ob (.slice PA P.length pcap)) (w5.setCell ⟨pb, 1, none⟩ (.int .i64 nx)) w8 := ((Fr.refl _ _).alloc _).grown hg9.out (fun j hj => .inl (Option.mem_toList.2 hj))
            have hobP := ob_ge hO.out.1
            have hDC := hide (hw39.out.away ((Fr.refl [pb] w5).setCell ⟨pb, 1, none⟩ (.int .i64 nx) (.inl (by simp))) (fun y hy h2 => by rw [List.mem_singleton] at hy; subst hy; obtain ⟨cs, cn, hc⟩ := own_kind hw39.out.1 h2; exact no_kind hc (by decide) _ _ hb5))
            go_roundg (c.length - (k + 1))
            case measure => omega
            case rel =>
              refine ⟨k + 1, P ++ [(Value.slice A38 C38.length c38, (t, nx), C38)], by go_num, by omega, ⟨by rw [List.length_append, pt_append]; simpa [pt, pt1] using ho9.out, fun p hp => ?_⟩, ?_, by simp; omega, ext_fr (hX.out.trans hXz.out) hF9 (fun y hy => (hobP y hy).1)⟩
              · rcases List.mem_append.1 hp with hp | hp
                · exact ((hO.out.2 p hp).ext hXz.out).away hF9 (own_far hO9.out ((hO.out.2 p hp).ext hXz.out).1 (by decide))
                · obtain rfl := List.mem_singleton.1 hp
                  exact (DC.base hDC.out hzc2).away hF9 (own_far hO9.out hDC.out.1 (by decide))
              · show _ = _
                rw [hnx, ← hpt.out, pts_append]
                simp [hCe.out]
        · have hny : nx = 1125899906842624 := by rw [hnxe, List.getElem?_eq_none (by omega)]; rfl
          subst hny
          have hnl : ¬ ((k : Int) + 1 < (c.length : Int)) := by omega
          have k0 := hb5.cell 0 rfl
          have k1 := hb5.cell 1 rfl
          have k2 := hb5.cell 2 rfl
          replace hnxe := hide hnxe
          clear hcz
          by_cases hem : alG G t = []
          · rw [if_pos hem, List.append_nil] at hnx
            have hn0 : ¬ (0 : Int) < (C38.length : Int) := by have := hCl.1 hem; omega
            have hXz := hide (show Ext wr w5 from hX5.out)
            have hO9 := hide (own_ext hO.out.1 hXz.out)
            have hOb1 : Ob w5 pb 52 [.int .i64 t, .int .i64 1125899906842624, .slice A38 C38.length c38] := hb5
            have m0 := hOb1.cell 0 rfl
            have m1 := hOb1.cell 1 rfl
            have m2 := hOb1.cell 2 rfl
            go_wp2_with fail
            go_roundg (c.length - (k + 1))
            case measure => omega
            case rel => exact ⟨k + 1, P, by go_num, by omega, ⟨hO9.out, fun p hp => (hO.out.2 p hp).ext hXz.out⟩, (by show _ = _; rw [hnx]; exact hpt.out), by omega, hX.out.trans hXz.out⟩
          · rw [if_neg hem] at hnx
            have hn0 : (0 : Int) < (C38.length : Int) := by have : C38.length ≠ 0 := fun h => hem (hCl.2 h); omega
            have hXz := hide (show Ext wr w5 from hX5.out)
            have hO9 := hide (own_ext hO.out.1 hXz.out)
            have hOb1 : Ob w5 pb 52 [.int .i64 t, .int .i64 1125899906842624, .slice A38 C38.length c38] := hb5
            have m0 := hOb1.cell 0 rfl
            have m1 := hOb1.cell 1 rfl
            have m2 := hOb1.cell 2 rfl
            have hsrc0 := (src_sl Tryz.underlying34 (sl_lit w5 52 3 [.int .i64 t, .int .i64 1125899906842624, .slice A38 C38.length c38] rfl) (by intro u hu; simp only [List.mem_cons, List.not_mem_nil, or_false] at hu; rcases hu with rfl | rfl | rfl <;> rfl) (by omega))
            skip
            have hsrc := hide hsrc0
            clear hsrc0
            have hbs := hide (own_ext hO9.out ((Ext.refl w5).alloc (.cells #[.int .i64 t, .int .i64 1125899906842624, .slice A38 C38.length c38] 52)))
            have hbz := hide (Nat.le_trans hzc2 (Nat.le_trans hXz.out.size ((Ext.refl w5).alloc (.cells #[.int .i64 t, .int .i64 1125899906842624, .slice A38 C38.length c38] 52)).size))
            go_wp2_with (at_builtin; (refine wpl_app tPa rfl (.tmp 55) (.tmp 57) rfl rfl hbs.out rfl hsrc.out (by unfold maxLen; omega) (by omega) hbz.out ?_; intro v8 w8 ho8 hg8 hob8; have ho9 := hide ho8; have hg9 := hide hg8; obtain ⟨A8, c8, q8⟩ := own_form ho8; subst q8; clear ho8 hg8 hob8))
            have hF9 : Fr (ob (.slice PA P.length pcap)) w5 w8 := ((Fr.refl _ _).alloc _).grown hg9.out (fun j hj => .inl (Option.mem_toList.2 hj))
            have hobP := ob_ge hO.out.1
            have hDC := hw39
            go_roundg (c.length - (k + 1))
            case measure => omega
            case rel =>
              refine ⟨k + 1, P ++ [(Value.slice A38 C38.length c38, (t, 1125899906842624), C38)], by go_num, by omega, ⟨by rw [List.length_append, pt_append]; simpa [pt, pt1] using ho9.out, fun p hp => ?_⟩, ?_, by simp; omega, ext_fr (hX.out.trans hXz.out) hF9 (fun y hy => (hobP y hy).1)⟩
              · rcases List.mem_append.1 hp with hp | hp
                · exact ((hO.out.2 p hp).ext hXz.out).away hF9 (own_far hO9.out ((hO.out.2 p hp).ext hXz.out).1 (by decide))
                · obtain rfl := List.mem_singleton.1 hp
                  exact (DC.base hDC.out hzc2).away hF9 (own_far hO9.out hDC.out.1 (by decide))
              · show _ = _
                rw [hnx, ← hpt.out, pts_append]
                simp [hCe.out]
    · have hkc : k = c.length := by omega
      have hfin := hide (show pts P = paG G (spC c) by rw [hpt.out, List.take_of_length_le (by omega)])
      have hPT : (paG G (spC c)).length = P.length := by rw [← hfin.out, List.length_map]
      have hE0 : EE = 0 := by rw [hEE.out, if_neg (by omega)]
      have e7 := hide hE0
      have e8 := hide (show RR = paG G (spC c) by rw [hRR.out, if_pos hE0])
      have hPI : ¬ (1024 : Int) < (P.length : Int) := by omega
      clear hE0 hPT
      go_wp2_with fail
      go_returns
      rw [e7.out, e8.out]
      exact ⟨_, rfl, P, hfin.out, ⟨Sl.own hO.out.1 (by simp), fun p hp => (hO.out.2 p hp).cw (hC'.out.ext (hX2.out.trans hX.out))⟩, hX2.out.trans hX.out⟩
end Go.Proofs.YtljkneajdndgjaaGreat
