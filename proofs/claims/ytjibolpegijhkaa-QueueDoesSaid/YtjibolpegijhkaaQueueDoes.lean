/-
  Layer 15 (queue), 15.1: for every script of pushes and pops (of which those of up to 200 count), what comes out, and how many there are, is as the document says. No condition.
-/
import Derived.Test.YtjibolpegijhkaaQueM
import Derived.WalkKit
import Derived.ProofKit
import Derived.OpenShut
import Derived.ShutString
import Derived.ChangeOld
import Derived.Below
import Derived.Lib.SmallJoins
import Derived.SizedLaws
import Derived.Deep.CondSized
import Derived.JoinedCond
set_option linter.unusedVariables false
set_option linter.unusedSimpArgs false
namespace Go.Proofs.Ytjibolpegijhkaa.queueDoes
open Go.ChangeShapes Go.WideShapes Go.ChangeAt Go.RowKit Go.Joins
open Go.ChangeMaps (open_string shut_string)
attribute [local go_sem] GW.cell GW.frozen In.eq_true In.le_true In.ne In.ne' In.ne_add In.ne_add' In.lt_add Upto.le_true Upto.le_add Upto.lt_add
set_option maxHeartbeats 8000000 in
set_option maxRecDepth 100000 in
theorem walk (l : List Op3) (v : Value) (w : World) (h : Ow w [] v l) : Calls Try.prog 3 #[v] w fun e w' => e = .returned (.bool true) ∧ Ext w w' := by
  by_cases hl : l.length ≤ 200
  · have hlI : ¬ (200 : Int) < l.length := by omega
    have hN := hide (new_c w.heap.size w (Nat.le_refl _))
    obtain ⟨VA, acap, rfl, hlc, hlm, hat⟩ := ow_form h
    unfold maxLen at hlm
    replace hat := hide hat
    clear h
    go_enter Try.func3, Try.ntmps3
    go_wp2_with (go_at_call 7; (refine hN.out.mono ?_; rintro ee w1 ⟨q, rfl, hq1, hq2, hx1⟩; have hX1 := hide hx1; have hlt1 := hq1.lt.1; haveI : In q w1 := ⟨hlt1⟩; replace hq1 := hide hq1; clear hx1))
    have hXr := hide (hX1.out.alloc (.cells #[.slice none 0 0] 32))
    have hQ0 : Hid (QL (w1.alloc (.cells #[.slice none 0 0] 32)) w.heap.size q [] 0) := ⟨[], rfl, hq1.out.ext ((Ext.refl w1).alloc _)⟩
    have hR0 : Hid (Rs (w1.alloc (.cells #[.slice none 0 0] 32)) w.heap.size w1.heap.size []) := ⟨hX1.out.size, _, Ob.new w1 _ _, World.ownsRow_nil _ _ _ _⟩
    clear hN hq1
    obtain ⟨r, hr⟩ : ∃ r, r = w1.heap.size := ⟨_, rfl⟩
    rw [← hr] at hR0 ⊢
    replace hr := hide hr
    go_loopg [5] l.length (fun gh i wr => ∃ (k : Nat) (L : List Jp) (m : Int), i = .int .i64 k ∧ k + gh = l.length ∧ L.length ≤ k ∧ Hid (QL wr w.heap.size q L m) ∧ Hid (Rs wr w.heap.size r L) ∧ Hid (Ext w wr) ∧ (0 ≤ m ∧ m ≤ k))
    case atStart => exact ⟨0, [], 0, rfl, by omega, Nat.le_refl _, hQ0, hR0, hXr, by omega⟩
    case round =>
      obtain ⟨k, L, m, rfl, hk, hLk, hQ, hR, hX, hm⟩ := hrel
      clear hQ0 hR0 hXr
      have hN9 := hide hm
      have hwb := hX.out.size
      by_cases hlt : k < l.length
      · have hkI : (k : Int) < l.length := by omega
        have hltI : (k : Int) < l.length := hkI
        obtain ⟨x, hx⟩ : ∃ x, l[k]? = some x := ⟨_, List.getElem?_eq_getElem hlt⟩
        obtain ⟨b0, o, rfl, -, hbl, c0, c1, c2⟩ := hat.out k x hx
        have k0 := jcell_later hX.out c0
        have k1 := jcell_later hX.out c1
        have k2 := jcell_later hX.out c2
        have hbr : b0 < wr.heap.size := block_lt_of_cell k0
        haveI : In b0 wr := ⟨hbr⟩
        have hqlt := hQ.out.lt.1
        haveI : In q wr := ⟨hqlt⟩
        have hrlt := hR.out.lt
        haveI : In r wr := ⟨hrlt⟩
        have hkc := hide c1
        have hkc2 := hide c2
        obtain ⟨kd, xa, xn⟩ := x
        simp only at k0 k1 k2
        clear c0 c1 c2 hx hat
        by_cases hkd : kd = 0
        · subst hkd
          have hPu := hide (fun w' (hX' : Ext wr w') z (hz : ∀ w'', Ft w.heap.size Tq w' w'' → Jw w'' [] z [(xa, xn)]) => lpush_c w.heap.size q L [(xa, xn)] (by simp; omega) m (by omega) (by omega) z w' (hQ.out.ext hX') hz)
          go_wp2_with (go_at_call 9; (refine (hPu.out _ ((Ext.refl _).alloc _) _ (fun w'' kk => jw_ob (l := [(xa, xn)]) (kk.ob (Ob.new _ 27 [.int .i64 xa, .int .i64 xn]) (by decide)) (by simp [maxLen]))).mono ?_; rintro ee w5 ⟨rfl, p1, p2⟩; have hR5 := hide ((hR.out.ext ((Ext.refl wr).alloc (.cells #[.int .i64 xa, .int .i64 xn] 27))).ft p2 (by decide) (by decide)); have hX5 := hide (p2.ext (hX.out.alloc (.cells #[.int .i64 xa, .int .i64 xn] 27)) (Nat.le_refl _)); replace p1 := hide p1; clear p2))
          obtain ⟨hBr, vr, r1, r3⟩ := hR5.out
          obtain ⟨G, rcap, rfl⟩ := own_form r3
          have r2 := r1.cell 0 rfl
          have hrl5 := r1.lt
          haveI : In r w5 := ⟨hrl5⟩
          have x1 := jcell_later hX5.out hkc.out
          have x2 := jcell_later hX5.out hkc2.out
          try simp only at x1 x2
          have hbl5 : b0 < w5.heap.size := block_lt_of_cell x1
          haveI : In b0 w5 := ⟨hbl5⟩
          have r1h := hide r1
          have r3h := hide r3
          clear r1 r3
          have hs5 := hX5.out.size
          refine wp_region_loose_tail 11 [(.is (.pointer (some ⟨r, 0, none⟩))), (.is (.pointer (some ⟨r, 0, none⟩))), (.is (.pointer (some ⟨r, 0, none⟩))), (.is (.pointer (some ⟨r, 0, none⟩))), (.is (.slice G L.length rcap)), (.is (.slice (some ⟨b0, o, none⟩) l.length acap)), (.is (.int .i64 k)), (.is (.pointer (some ⟨b0, o + k * 3, none⟩))), (.is (.pointer (some ⟨b0, o + k * 3 + 1, none⟩))), (.is (jm (xa, xn))), oneJ (xa, xn)] (by kernel_rfl) (by kernel_rfl) (by kernel_rfl) (by kernel_rfl) (by kernel_rfl) (by kernel_rfl) (by kernel_rfl) (by kernel_rfl) (by kernel_rfl) ?_ ?_
          · refine ⟨?_, ?_, ?_, ?_, ?_, ?_, ?_, ?_, ?_, ?_, ?_, trivial⟩
            · intro b w' h hE
              have f4 : b.tmps.getD 4 undef = .pointer (some ⟨r, 0, none⟩) := hE 4 (of_decide_eq_true (by kernel_rfl))
              exact good_move (wanted_none rfl) rfl f4
            · intro b w' h hE
              have f4 : b.tmps.getD 4 undef = .pointer (some ⟨r, 0, none⟩) := hE 4 (of_decide_eq_true (by kernel_rfl))
              exact good_move (wanted_none rfl) rfl f4
            · intro b w' h hE
              have f44 : b.tmps.getD 44 undef = .pointer (some ⟨r, 0, none⟩) := h.dep 1 _ 44 (by kernel_rfl) rfl rfl
              exact good_nilCheck (wanted_none rfl) rfl f44 rfl
            · intro b w' h hE
              have f45 : b.tmps.getD 45 undef = .pointer (some ⟨r, 0, none⟩) := h.dep 2 _ 45 (by kernel_rfl) rfl rfl
              exact good_field (wanted_none rfl) rfl f45 (by simp [go_sem]) rfl
            · intro b w' h hE
              have f46 : b.tmps.getD 46 undef = .pointer (some ⟨r, 0, none⟩) := h.dep 3 _ 46 (by kernel_rfl) rfl rfl
              have c0 := jcell_later h.ext r2
              exact good_load (wanted_none rfl) rfl f46 (by simp [go_sem, c0]) rfl
            · intro b w' h hE
              have f0 : b.tmps.getD 0 undef = .slice (some ⟨b0, o, none⟩) l.length acap := hE 0 (of_decide_eq_true (by kernel_rfl))
              exact good_move (wanted_none rfl) rfl f0
            · intro b w' h hE
              have f5 : b.tmps.getD 5 undef = .int .i64 k := hE 5 (of_decide_eq_true (by kernel_rfl))
              exact good_move (wanted_none rfl) rfl f5
            · intro b w' h hE
              have f48 : b.tmps.getD 48 undef = .slice (some ⟨b0, o, none⟩) l.length acap := h.dep 5 _ 48 (by kernel_rfl) rfl rfl
              have f49 : b.tmps.getD 49 undef = .int .i64 k := h.dep 6 _ 49 (by kernel_rfl) rfl rfl
              exact good_index (wanted_none rfl) rfl f48 f49 (by simp [go_sem, hltI]) rfl
            · intro b w' h hE
              have f50 : b.tmps.getD 50 undef = .pointer (some ⟨b0, o + k * 3, none⟩) := h.dep 7 _ 50 (by kernel_rfl) rfl rfl
              exact good_field (wanted_none rfl) rfl f50 (by simp [go_sem]) rfl
            · intro b w' h hE
              have f51 : b.tmps.getD 51 undef = .pointer (some ⟨b0, o + k * 3 + 1, none⟩) := h.dep 8 _ 51 (by kernel_rfl) rfl rfl
              have c0 := jcell_later h.ext x1
              have c1 := jcell_later h.ext x2
              exact good_load (wanted_none rfl) rfl f51 (by simp [go_sem, c0, c1]) rfl
            · intro b w' h hE
              have f52 : b.tmps.getD 52 undef = jm (xa, xn) := h.dep 9 _ 52 (by kernel_rfl) rfl rfl
              have g52 : b.tmps[52]?.getD undef = jm (xa, xn) := by rw [← Array.getD_eq_getD_getElem?]; exact f52
              have := buildJ1 (xa, xn) w'
              refine good_grow (w' := w'.alloc (.cells #[.int .i64 ((xa, xn) : Jp).1, .int .i64 ((xa, xn) : Jp).2] 27)) (v := .slice (some ⟨w'.heap.size, 0, none⟩) 1 1) (wanted_none rfl) ?_ (oneJ_new (xa, xn) w') ((Ext.refl _).alloc _)
              simp [execOp, Act.eval, g52, this, Sem.run_bind, Sem.run_pure, Result.andThen_ok]
          intro b w2 hX2 hd hz he' hf
          have e43 : b.tmps.getD 43 undef = .pointer (some ⟨r, 0, none⟩) := hf 0 _ 43 (by omega) rfl rfl
          have e44 : b.tmps.getD 44 undef = .pointer (some ⟨r, 0, none⟩) := hf 1 _ 44 (by omega) rfl rfl
          have e45 : b.tmps.getD 45 undef = .pointer (some ⟨r, 0, none⟩) := hf 2 _ 45 (by omega) rfl rfl
          have e46 : b.tmps.getD 46 undef = .pointer (some ⟨r, 0, none⟩) := hf 3 _ 46 (by omega) rfl rfl
          have e47 : b.tmps.getD 47 undef = .slice G L.length rcap := hf 4 _ 47 (by omega) rfl rfl
          have e48 : b.tmps.getD 48 undef = .slice (some ⟨b0, o, none⟩) l.length acap := hf 5 _ 48 (by omega) rfl rfl
          have e49 : b.tmps.getD 49 undef = .int .i64 k := hf 6 _ 49 (by omega) rfl rfl
          have e50 : b.tmps.getD 50 undef = .pointer (some ⟨b0, o + k * 3, none⟩) := hf 7 _ 50 (by omega) rfl rfl
          have e51 : b.tmps.getD 51 undef = .pointer (some ⟨b0, o + k * 3 + 1, none⟩) := hf 8 _ 51 (by omega) rfl rfl
          have e52 : b.tmps.getD 52 undef = jm (xa, xn) := hf 9 _ 52 (by omega) rfl rfl
          have f9 : Jw w2 [] (b.tmps.getD 53 undef) [(xa, xn)] := hf 10 _ 53 (by omega) rfl rfl
          have e := frame_puts hd hz he'
          obtain ⟨X, hXx⟩ : ∃ X : Nat → Value, ∀ d, b.tmps.getD d undef = X d := ⟨_, fun _ => rfl⟩
          rw [hXx] at e43 e44 e45 e46 e47 e48 e49 e50 e51 e52 f9
          obtain ⟨A9, c9, q9⟩ := jone_form f9
          rw [show dstsOf _ = [43, 44, 45, 46, 47, 48, 49, 50, 51, 52, 53] from rfl] at e
          simp only [List.foldl_cons, List.foldl_nil, hXx, Act.put, List.setIfInBounds_toArray, List.set_cons_succ, List.set_cons_zero] at e
          rw [e43, e44, e45, e46, e47, e48, e49, e50, e51, e52, q9] at e
          rw [q9] at f9
          replace f9 := hide f9
          clear hf he' hz hd hXx e43 e44 e45 e46 e47 e48 e49 e50 e51 e52 q9
          subst e
          have hzw := hX2.size
          simp only [List.drop_succ_cons, List.drop_zero]
          have ho2 := own_ext r3h.out hX2
          have OB2 := r1h.out.ext hX2
          go_wp2_with (at_builtin; (refine wpl_app tJmp rfl (.tmp 47) (.tmp 53) rfl rfl ho2 rfl (src_sl Try.underlying30 f9.out (ps_one _) (by omega)) (by unfold maxLen; simp only [List.length_singleton]; omega) (by simp only [List.length_singleton]; omega) (by omega) ?_; intro v8 w8 ho8 hg8 hd8; have OB8 := OB2.grown hg8 (fun e => Ob.not_own OB2 ho2 (by decide) e.symm); have z1 := OB8.cell 0 rfl; have zf1 := OB8.free 0; have zlt := OB8.lt; haveI : In r w8 := ⟨zlt⟩; obtain ⟨A8, c8, q8⟩ := own_form ho8; subst q8; have hQ8 := hide ((p1.out.ext hX2).ft (Ts := [27]) ((Ft.refl _).grown hg8 (fun kk hk => by obtain ⟨u1, u2, u3, u4⟩ := own_typed ho2 kk hk; exact ⟨u1, u2, _, u3, u4, by simp⟩)) (by decide) (by decide)); have hX8 := hide (ext_grown (hX5.out.trans hX2) hg8 (fun kk hk => (ho2.lt kk hk).1)); have OB8h := hide OB8; have ho8h := hide ho8; clear OB8 ho8 hg8 hd8 OB2 ho2))
          dsimp only [onN, Exit.then]
          have hQz : Hid (QL (w8.setCell ⟨r, 0, none⟩ (.slice A8 (L.length + 1) c8)) w.heap.size q (L ++ [(xa, xn)]) (m + 1)) := hQ8.out.ft (Ts := [32]) ((Ft.refl w8).set hBr OB8h.out (by simp)) (by decide) (by decide)
          have hRz : Hid (Rs (w8.setCell ⟨r, 0, none⟩ (.slice A8 (L.length + 1) c8)) w.heap.size r (L ++ [(xa, xn)])) := ⟨hBr, _, OB8h.out.set 0 _, Ft.own (Ts := [32]) ((Ft.refl w8).set hBr OB8h.out (by simp)) (own_appJ ho8h.out) (by decide)⟩
          have hXz := hide (hX8.out.setCell (p := ⟨r, 0, none⟩) hBr (.slice A8 (L.length + 1) c8))
          have hLz : Hid ((L ++ [(xa, xn)]).length = L.length + 1) := by show _ = _; simp
          generalize w8.setCell ⟨r, 0, none⟩ (.slice A8 (L.length + 1) c8) = wz at *
          have hKq := hide (fun w' (hX' : Ext wz w') => lpeek_c w.heap.size q (L ++ [(xa, xn)]) (m + 1) w' (hQz.out.ext hX'))
          have hKr := hide (fun w' (hX' : Ext wz w') => rpeek_c w.heap.size r (L ++ [(xa, xn)]) (by have := hLz.out; omega) w' (hRz.out.ext hX'))
          have hLq := hide (fun w' (hX' : Ext wz w') => llen_c w.heap.size q (L ++ [(xa, xn)]) (m + 1) w' (hQz.out.ext hX'))
          obtain ⟨-, vz, rz1, rz2⟩ := hRz.out
          obtain ⟨Az, cz, rfl⟩ := own_form rz2
          have rzc := rz1.cell 0 rfl
          have rzl := rz1.lt
          haveI : In r wz := ⟨rzl⟩
          have hLz' := hLz.out
          clear rz1 rz2
          obtain ⟨⟨pa, pn⟩, hp⟩ : ∃ p, p = hdL (L ++ [(xa, xn)]) := ⟨_, rfl⟩
          rw [← hp] at hKq hKr
          generalize decide (0 < (L ++ [(xa, xn)]).length) = ob at *
          clear hp
          have hns := neq_jsame (pa, pn)
          have hbb : (ob != ob) = false := by simp
          go_wp2_with (first | (go_at_call 12; (with_reducible refine seq_gw (hKq.out _ (Ext.refl _)) ?_); intro g1) | (go_at_call 13; (with_reducible refine seq_gw (hKr.out _ (g1.grown.alloc _)) ?_); intro g2))
          refine wp_region_gw (by kernel_rfl) (by kernel_rfl) ?_
          repeat (go_big_quiet_step ((go_at_call 14; with_reducible exact quiet_gw (hLq.out _ (((g1.grown.alloc _).trans g2.grown).alloc _ |>.trans (GW.grown _))))))
          refine wpQuiet_nil ?_
          intro g5
          go_wp2_with fail
          have hT := (((g1.grown.alloc (.cells #[.int .i64 pa, .int .i64 pn] 27)).trans g2.grown).alloc (.cells #[.int .i64 pa, .int .i64 pn] 27)).trans g5.grown
          go_roundg (l.length - (k + 1))
          case measure => omega
          case rel => exact ⟨k + 1, L ++ [(xa, xn)], m + 1, by go_num, by omega, by have := hLz.out; omega, hQz.out.ext hT, hRz.out.ext hT, hXz.out.trans hT, by have := hN9.out; omega⟩
        · have hkb : (kd == 0) = false := by simp [hkd]
          have hPq := hide (fun w' (hX' : Ext wr w') => lpop_c w.heap.size q L (by omega) m w' (by have := hX'.size; omega) (hQ.out.ext hX'))
          have hPr := hide (fun w' (hX' : Ext w w') (hR' : Rs w' w.heap.size r L) => rpop_c w.heap.size r L (by omega) w' hX'.size hR')
          obtain ⟨⟨ya, yn⟩, hy⟩ : ∃ y, y = hdL L := ⟨_, rfl⟩
          rw [← hy] at hPq hPr
          generalize decide (0 < L.length) = oa at *
          have hnq := neq_jsame (ya, yn)
          have hba : (oa != oa) = false := by simp
          have hpl : (popL L).length ≤ L.length := by unfold popL; exact List.length_eraseIdx_le _ _
          have hplh := hide hpl
          replace hkd := hide hkd
          clear hy
          generalize popL L = L2 at *
          go_wp2_with (first | (go_at_call 10; (refine (hPq.out _ (Ext.refl _)).mono ?_; rintro ee w5 ⟨rfl, p1, p2⟩; have hA5 := (Ext.refl w5).alloc (.cells #[.int .i64 ya, .int .i64 yn] 27); have hR5 := hide ((hR.out.ft p2 (by decide) (by decide)).ext hA5); have hX5 := hide ((p2.ext hX.out (Nat.le_refl _)).trans hA5); have hQ5 := hide (p1.ext hA5); clear p1 p2 hA5)) | (go_at_call 11; (refine (hPr.out _ hX5.out hR5.out).mono ?_; rintro ee w6 ⟨rfl, s1, s2⟩; have OX6 := s2.ob (Ob.new w5 27 [.int .i64 ya, .int .i64 yn]) (by decide); have y0 := OX6.cell 0 rfl; have y1 := OX6.cell 1 rfl; have yl := OX6.lt; haveI : In w5.heap.size w6 := ⟨yl⟩; have hQ6 := hide (hQ5.out.ft s2 (by decide) (by decide)); have hX6 := hide (s2.ext hX5.out (Nat.le_refl _)); replace s1 := hide s1; clear OX6 s2)))
          first | go_quiet (fail) | skip
          go_wp2_with fail
          have hA6 := (Ext.refl w6).alloc (.cells #[.int .i64 ya, .int .i64 yn] 27)
          have hQz := hide (hQ6.out.ext hA6)
          have hRz := hide (s1.out.ext hA6)
          have hXz := hide (hX6.out.trans hA6)
          have hLz := hplh
          clear y0 y1
          clear hQ6 s1 hX6 hA6 hPq hPr hQ5 hR5 hX5
          generalize w6.alloc (.cells #[.int .i64 ya, .int .i64 yn] 27) = wz at *
          have hKq := hide (fun w' (hX' : Ext wz w') => lpeek_c w.heap.size q (L2) m w' (hQz.out.ext hX'))
          have hKr := hide (fun w' (hX' : Ext wz w') => rpeek_c w.heap.size r (L2) (by have := hLz.out; omega) w' (hRz.out.ext hX'))
          have hLq := hide (fun w' (hX' : Ext wz w') => llen_c w.heap.size q (L2) m w' (hQz.out.ext hX'))
          obtain ⟨-, vz, rz1, rz2⟩ := hRz.out
          obtain ⟨Az, cz, rfl⟩ := own_form rz2
          have rzc := rz1.cell 0 rfl
          have rzl := rz1.lt
          haveI : In r wz := ⟨rzl⟩
          have hLz' := hLz.out
          clear rz1 rz2
          obtain ⟨⟨pa, pn⟩, hp⟩ : ∃ p, p = hdL (L2) := ⟨_, rfl⟩
          rw [← hp] at hKq hKr
          generalize decide (0 < (L2).length) = ob at *
          clear hp
          have hns := neq_jsame (pa, pn)
          have hbb : (ob != ob) = false := by simp
          go_wp2_with (first | (go_at_call 12; (with_reducible refine seq_gw (hKq.out _ (Ext.refl _)) ?_); intro g1) | (go_at_call 13; (with_reducible refine seq_gw (hKr.out _ (g1.grown.alloc _)) ?_); intro g2))
          refine wp_region_gw (by kernel_rfl) (by kernel_rfl) ?_
          repeat (go_big_quiet_step ((go_at_call 14; with_reducible exact quiet_gw (hLq.out _ (((g1.grown.alloc _).trans g2.grown).alloc _ |>.trans (GW.grown _))))))
          refine wpQuiet_nil ?_
          intro g5
          go_wp2_with fail
          have hT := (((g1.grown.alloc (.cells #[.int .i64 pa, .int .i64 pn] 27)).trans g2.grown).alloc (.cells #[.int .i64 pa, .int .i64 pn] 27)).trans g5.grown
          go_roundg (l.length - (k + 1))
          case measure => omega
          case rel => exact ⟨k + 1, L2, m, by go_num, by omega, by have := hLz.out; omega, hQz.out.ext hT, hRz.out.ext hT, hXz.out.trans hT, by have := hN9.out; omega⟩
      · have hge : (l.length : Int) ≤ k := by omega
        clear hat
        go_wp2_with (first | (go_at_call 6; first | ((with_reducible refine seq_gw' (queLive_c _) ?_); intro g0) | ((with_reducible refine seq_gw (queLive_c _) ?_); intro g0)))
        go_returns
        exact ⟨by first | rfl | simp, hX.out.trans g0.grown⟩
  · have hlI : (200 : Int) < l.length := by omega
    obtain ⟨VA, acap, rfl, -, -, -⟩ := ow_form h
    clear h hl
    go_enter Try.func3, Try.ntmps3
    go_wp2_with (go_at_call 6; first | ((with_reducible refine seq_gw' (queLive_c _) ?_); intro g0) | ((with_reducible refine seq_gw (queLive_c _) ?_); intro g0))
    go_returns
    exact ⟨by first | rfl | simp, g0.grown⟩

theorem own : ownKnob Try.prog.godebug = none := by kernel_rfl
theorem laidOut : laidOutB Try.prog = true := by kernel_rfl
set_option maxRecDepth 100000 in
theorem lifted (os : Os) (started : os.Started) (H : Type) (enc : TypeId × Value → H) :
    ReturnsInHanded {} Try.checked os 3 .any (Rows.queueDoesSpec.pre6 enc Try.prog Try.f3 Rows.queueDoesRow.domain false) (Rows.queueDoesSpec.post enc Try.prog Try.f3 false true false false) := by
  refine returnsInHanded_of_change_sized (C := Try.checked) own started (by kernel_rfl) Try.func3
    (ChangeSpec.witness6 (enc := enc) (C := Try.checked) false ⟨#[], #[.slice none 0 0], []⟩ 8 (by kernel_rfl) (by kernel_rfl) (by kernel_rfl) (by kernel_rfl)) ?_
  intro W base args ds gs before hval0 hW hcnd hsz0 _
  have hsz : (DataW.weightsEach Try.prog (Try.f3.params.toList ++ Rows.queueDoesSpec.plain.varTypes Try.prog) (ds ++ gs)).all (· ≤ reachBytes) = true := hsz0
  clear hsz0
  have hval : ∀ (j : Nat) t v, Try.f3.params[j]? = some t → args[j]? = some v → Value.okWide Try.prog W .any base t v := hval0
  have hW' := hW
  obtain ⟨p, q, hA0, hV, rfl, hfz, hnd⟩ := hW
  have hA : DataW.TrodAll enc Try.prog W 0 (fun _ => true) true Try.f3.params.toList args.toList ds p := hA0
  rw [Try.params3] at hA hval hsz
  obtain ⟨v0, vs0, d0, ds0, p0, q0, hargs, rfl, rfl, h0, r0⟩ := trodAll_cons hA
  obtain ⟨rfl, rfl, rfl⟩ := trodAll_nil r0
  obtain rfl : args = #[v0] := by cases args; simp_all
  obtain ⟨rfl, rfl⟩ := trodVars_none hV
  have k0 := h0
  have lt0 : ∀ x ∈ p0, x.block < W.heap.size := by obtain ⟨m, hm⟩ := k0; exact DataW.trod_lt m _ _ _ hm
  obtain ⟨A0, n0, c0, rfl⟩ := okWide_slice Try.underlying22 (hval 0 22 v0 rfl rfl)
  have ⟨m0, hm0⟩ := h0
  obtain ⟨l, ll, hl⟩ := open_ops Try.underlying22 Try.underlying34 (by kernel_rfl) rfl rfl (by kernel_rfl) (by kernel_rfl) Try.underlying3 Try.underlying27 rfl rfl (by kernel_rfl) (by kernel_rfl) Try.underlying3 Try.underlying3 hm0
  clear hA0 hval0
  refine (walk l _ W hl).mono fun e W' ⟨he, bel⟩ => ?_
  subst he
  exact ⟨_, rfl, _, _, _, [], _, [], hW', trodAll_mk1 (shut_bool Try.underlying4 _), (trodAll_cons_mk (Below.trod laidOut (by kernel_rfl) (of_decide_eq_true (by kernel_rfl)) k0 bel lt0) trodAll_mk0), rfl, bel.frame _, fun h => by cases h⟩

theorem over : Rows.queueDoesRow.holds Try.pinned (OpenSpec.ofChange Rows.queueDoesSpec) :=
  OpenClaim.holds_of_wide 3 Try.f3 rfl rfl rfl rfl rfl rfl rfl ⟨rfl, rfl, rfl, rfl, rfl⟩ rfl rfl rfl rfl rfl (by kernel_rfl) Try.func3 (by kernel_rfl)
    (of_decide_eq_true (by kernel_rfl)) (by unfold Func.isWrapper; first | (rw [if_pos (by decide +kernel)]; kernel_rfl) | (rw [if_neg (by decide +kernel)]; exact ⟨rfl, rfl⟩))
    (fun os started H enc _ => lifted os started H enc)

theorem queueDoes_holds : Rows.QueueDoesSaid := over
end Go.Proofs.Ytjibolpegijhkaa.queueDoes
