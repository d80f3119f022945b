/-
  A helper of ours: no claim of its own. Layer 15 (queue): Push.
-/
import Derived.Test.YtjibolpegijhkaaQueF
import Derived.Test.YtjibolpegijhkaaReg5
set_option linter.unusedVariables false
set_option linter.unusedSimpArgs false
namespace Go.Proofs.Ytjibolpegijhkaa
open Go.RowKit
attribute [local go_sem] GW.cell GW.frozen In.eq_true In.le_true In.ne In.ne' In.ne_add In.ne_add' In.lt_add Upto.le_true Upto.le_add Upto.lt_add
theorem ths_append (P : List It) (x : It) : ths (P ++ [x]) = ths P ++ [x.1] := by simp [ths]
set_option maxHeartbeats 8000000 in
set_option maxRecDepth 100000 in
theorem push_c (B q : Nat) (P : List It) (l : List Jp) (hP : P.length + l.length ≤ 1000000) (n : Int) (hn0 : 0 ≤ n) (hn9 : n ≤ 1000000000) (z : Value) (w : World) (h : QS w B q P n) (hz : ∀ w', Ft B Tq w w' → Jw w' [] z l) : Calls Try.prog 9 #[.pointer (some ⟨q, 0, none⟩), z] w fun e w' => e = .returned (.tuple #[]) ∧ (∃ P', ths P' = ths P ++ l ∧ QS w' B q P' (n + l.length)) ∧ Ft B Tq w w' := by
  obtain ⟨A, cap, rfl, hl, hm, -⟩ := jw_form (hz w (Ft.refl w))
  unfold maxLen at hm
  replace hz := hide hz
  have h00 := hide (show ∃ P', ths P' = ths P ++ l.take 0 ∧ P'.length = P.length + 0 ∧ QS w B q P' (n + (0 : Nat)) ∧ Ft B Tq w w from ⟨P, by simp, rfl, by simpa using h, Ft.refl w⟩)
  have hq0 := hide h.lt
  have hlI : (l.length : Int) ≤ 1000000 := by omega
  clear h
  go_enter Try.func9, Try.ntmps9
  go_wp2_with fail
  go_loopg [10] l.length (fun gh i wr => ∃ (k : Nat), i = .int .i64 k ∧ k + gh = l.length ∧ Hid (∃ P', ths P' = ths P ++ l.take k ∧ P'.length = P.length + k ∧ QS wr B q P' (n + k) ∧ Ft B Tq w wr))
  case atStart => exact ⟨0, rfl, by omega, h00⟩
  case round =>
    obtain ⟨k, rfl, hk, hrr⟩ := hrel
    clear h00
    by_cases hlt : k < l.length
    · obtain ⟨P', hth, hPl, hQS, hF⟩ := hrr.out
      clear hrr
      obtain ⟨A', cap', e', -, -, hat⟩ := jw_form (hz.out wr hF)
      simp only [Value.slice.injEq, true_and] at e'
      obtain ⟨rfl, rfl⟩ := e'
      obtain ⟨x, hx⟩ : ∃ x, l[k]? = some x := ⟨_, List.getElem?_eq_getElem hlt⟩
      obtain ⟨b, o, rfl, -, hbl, c0, c1⟩ := hat k x hx
      obtain ⟨v, H, hQ, hO, hhp, hperm, hnum, hBq⟩ := hQS
      obtain ⟨G, hcap, rfl⟩ := own_form hO
      have hHl := hperm.length_eq
      obtain ⟨M, hM⟩ : ∃ M, M = H.length := ⟨_, rfl⟩
      rw [← hM] at hQ
      have hMh := hide hM
      have hM9 : M ≤ 1000000 := by omega
      have hqlt := Ob.lt hQ
      haveI : In q wr := ⟨hqlt⟩
      haveI : In b wr := ⟨hbl⟩
      have hkI : (k : Int) < l.length := by omega
      have hk9 : (k : Int) ≤ 1000000 := by omega
      have hltI : (k : Int) < l.length := hkI
      have hk0 : (0 : Int) ≤ k := by omega
      obtain ⟨xa, xn⟩ := x
      simp only at c0 c1
      have hnx := hide (show ths (P' ++ [((xa, xn), n + k)]) = ths P ++ l.take (k + 1) by rw [ths_append, hth, take_snoc hx, List.append_assoc])
      have hnum2 := hide (nums_snoc hnum (xa, xn))
      have hperm2 := hide (hperm.append_right [((xa, xn), n + (k : Int))])
      have hup := hide (hp_push hhp ((xa, xn), n + (k : Int)))
      have hPl2 := hide (show (P' ++ [((xa, xn), n + (k : Int))]).length = P.length + (k + 1) by rw [List.length_append, hPl]; simp; omega)
      have hOx := hide (Ob.new wr 27 [.int .i64 xa, .int .i64 xn])
      have x0 := hOx.out.cell 0 rfl
      have x1 := hOx.out.cell 1 rfl
      have hQa := hide (Ob.alloc hQ (.cells #[.int .i64 xa, .int .i64 xn] 27))
      have q1 := Ob.cell hQa.out 1 rfl
      have q2 := Ob.cell hQa.out 2 rfl
      have hOa := hide (own_ext hO ((Ext.refl wr).alloc (.cells #[.int .i64 xa, .int .i64 xn] 27)))
      have hFa := hide (hF.trans (Ft.of_ext ((Ext.refl wr).alloc (.cells #[.int .i64 xa, .int .i64 xn] 27))))
      have hne := hide (Ob.not_own hQ hO (by decide))
      clear hat hx hQ hO hhp hperm hnum hth hPl hF hHl hM
      go_wp2_with fail
      --REGION
      refine wp_region_loose_tail 12 [(.is (.pointer (some ⟨q, 0, none⟩))), (.is (.pointer (some ⟨q, 0, none⟩))), (.is (.pointer (some ⟨q, 0, none⟩))), (.is (.pointer (some ⟨q, 1, none⟩))), (.is (.slice G M hcap)), (.is (jm (xa, xn))), (.is (.pointer (some ⟨q, 0, none⟩))), (.is (.pointer (some ⟨q, 0, none⟩))), (.is (.pointer (some ⟨q, 2, none⟩))), (.is (.int .i64 (n + k))), (.is (im ((xa, xn), n + k))), oneI ((xa, xn), n + k)] (by kernel_rfl) (by kernel_rfl) (by kernel_rfl) (by kernel_rfl) (by kernel_rfl) (by kernel_rfl) (by kernel_rfl) (by kernel_rfl) (by kernel_rfl) ?_ ?_
      · refine ⟨?_, ?_, ?_, ?_, ?_, ?_, ?_, ?_, ?_, ?_, ?_, ?_, trivial⟩
        · intro b w' h hE
          have f0 : b.tmps.getD 0 undef = .pointer (some ⟨q, 0, none⟩) := hE 0 (of_decide_eq_true (by kernel_rfl))
          exact good_move (wanted_none rfl) rfl f0
        · intro b w' h hE
          have f0 : b.tmps.getD 0 undef = .pointer (some ⟨q, 0, none⟩) := hE 0 (of_decide_eq_true (by kernel_rfl))
          exact good_move (wanted_none rfl) rfl f0
        · intro b w' h hE
          have f15 : b.tmps.getD 15 undef = .pointer (some ⟨q, 0, none⟩) := h.dep 1 _ 15 (by kernel_rfl) rfl rfl
          exact good_nilCheck (wanted_none rfl) rfl f15 rfl
        · intro b w' h hE
          have f16 : b.tmps.getD 16 undef = .pointer (some ⟨q, 0, none⟩) := h.dep 2 _ 16 (by kernel_rfl) rfl rfl
          exact good_field (wanted_none rfl) rfl f16 (by simp [go_sem]) rfl
        · intro b w' h hE
          have f17 : b.tmps.getD 17 undef = .pointer (some ⟨q, 1, none⟩) := h.dep 3 _ 17 (by kernel_rfl) rfl rfl
          have c0 := jcell_later h.ext q1
          exact good_load (wanted_none rfl) rfl f17 (by simp [go_sem, c0]) rfl
        · intro b w' h hE
          have f5 : b.tmps.getD 5 undef = .pointer (some ⟨wr.heap.size, 0, none⟩) := hE 5 (of_decide_eq_true (by kernel_rfl))
          have c0 := jcell_later h.ext x0
          have c1 := jcell_later h.ext x1
          exact good_load (wanted_none rfl) rfl f5 (by simp [go_sem, c0, c1]) rfl
        · intro b w' h hE
          have f0 : b.tmps.getD 0 undef = .pointer (some ⟨q, 0, none⟩) := hE 0 (of_decide_eq_true (by kernel_rfl))
          exact good_move (wanted_none rfl) rfl f0
        · intro b w' h hE
          have f20 : b.tmps.getD 20 undef = .pointer (some ⟨q, 0, none⟩) := h.dep 6 _ 20 (by kernel_rfl) rfl rfl
          exact good_nilCheck (wanted_none rfl) rfl f20 rfl
        · intro b w' h hE
          have f21 : b.tmps.getD 21 undef = .pointer (some ⟨q, 0, none⟩) := h.dep 7 _ 21 (by kernel_rfl) rfl rfl
          exact good_field (wanted_none rfl) rfl f21 (by simp [go_sem]) rfl
        · intro b w' h hE
          have f22 : b.tmps.getD 22 undef = .pointer (some ⟨q, 2, none⟩) := h.dep 8 _ 22 (by kernel_rfl) rfl rfl
          have c0 := jcell_later h.ext q2
          exact good_load (wanted_none rfl) rfl f22 (by simp [go_sem, c0]) rfl
        · intro b w' h hE
          have f19 : b.tmps.getD 19 undef = jm (xa, xn) := h.dep 5 _ 19 (by kernel_rfl) rfl rfl
          have f23 : b.tmps.getD 23 undef = .int .i64 (n + k) := h.dep 9 _ 23 (by kernel_rfl) rfl rfl
          have g19 : b.tmps[19]?.getD undef = jm (xa, xn) := by rw [← Array.getD_eq_getD_getElem?]; exact f19
          have g23 : b.tmps[23]?.getD undef = .int .i64 (n + k) := by rw [← Array.getD_eq_getD_getElem?]; exact f23
          exact good_run (wanted_none rfl) (by simp [execOp, Act.eval, go_sem, g19, g23, Sem.run_bind, Sem.run_pure, Result.andThen_ok]) rfl
        · intro b w' h hE
          have f24 : b.tmps.getD 24 undef = im ((xa, xn), n + k) := h.dep 10 _ 24 (by kernel_rfl) rfl rfl
          have g24 : b.tmps[24]?.getD undef = im ((xa, xn), n + k) := by rw [← Array.getD_eq_getD_getElem?]; exact f24
          have := buildI1 ((xa, xn), n + k) w'
          refine good_grow (w' := w'.alloc (.cells (it1 ((xa, xn), n + k)).toArray 49)) (v := .slice (some ⟨w'.heap.size, 0, none⟩) 1 1) (wanted_none rfl) ?_ (oneI_new ((xa, xn), n + k) w') ((Ext.refl _).alloc _)
          simp [execOp, Act.eval, g24, this, Sem.run_bind, Sem.run_pure, Result.andThen_ok]
      · intro b w2 hX2 hd hz he' hf
        have e14 : b.tmps.getD 14 undef = .pointer (some ⟨q, 0, none⟩) := hf 0 _ 14 (by omega) rfl rfl
        have e15 : b.tmps.getD 15 undef = .pointer (some ⟨q, 0, none⟩) := hf 1 _ 15 (by omega) rfl rfl
        have e16 : b.tmps.getD 16 undef = .pointer (some ⟨q, 0, none⟩) := hf 2 _ 16 (by omega) rfl rfl
        have e17 : b.tmps.getD 17 undef = .pointer (some ⟨q, 1, none⟩) := hf 3 _ 17 (by omega) rfl rfl
        have e18 : b.tmps.getD 18 undef = .slice G M hcap := hf 4 _ 18 (by omega) rfl rfl
        have e19 : b.tmps.getD 19 undef = jm (xa, xn) := hf 5 _ 19 (by omega) rfl rfl
        have e20 : b.tmps.getD 20 undef = .pointer (some ⟨q, 0, none⟩) := hf 6 _ 20 (by omega) rfl rfl
        have e21 : b.tmps.getD 21 undef = .pointer (some ⟨q, 0, none⟩) := hf 7 _ 21 (by omega) rfl rfl
        have e22 : b.tmps.getD 22 undef = .pointer (some ⟨q, 2, none⟩) := hf 8 _ 22 (by omega) rfl rfl
        have e23 : b.tmps.getD 23 undef = .int .i64 (n + k) := hf 9 _ 23 (by omega) rfl rfl
        have e24 : b.tmps.getD 24 undef = im ((xa, xn), n + k) := hf 10 _ 24 (by omega) rfl rfl
        have f9 : OneI w2 (b.tmps.getD 25 undef) ((xa, xn), n + k) := hf 11 _ 25 (by omega) rfl rfl
        have e := frame_puts hd hz he'
        obtain ⟨X, hXx⟩ : ∃ X : Nat → Value, ∀ d, b.tmps.getD d undef = X d := ⟨_, fun _ => rfl⟩
        rw [hXx] at e14 e15 e16 e17 e18 e19 e20 e21 e22 e23 e24 f9
        obtain ⟨A9, c9, q9⟩ := onei_form f9
        rw [show dstsOf _ = [14, 15, 16, 17, 18, 19, 20, 21, 22, 23, 24, 25] from rfl] at e
        simp only [List.foldl_cons, List.foldl_nil, hXx, Act.put, List.setIfInBounds_toArray, List.set_cons_succ, List.set_cons_zero] at e
        rw [e14, e15, e16, e17, e18, e19, e20, e21, e22, e23, e24, q9] at e
        rw [q9] at f9
        replace f9 := hide f9
        clear hf he' hz hd hXx e14 e15 e16 e17 e18 e19 e20 e21 e22 e23 e24 q9
        subst e
        have hzw := hX2.size
        simp only [List.drop_succ_cons, List.drop_zero]
      --END
        have ho2 : w2.ownsRow B 49 3 (.slice G M hcap) M (itc H) := by rw [hMh.out]; exact own_ext hOa.out hX2
        have OB2 := Ob.ext hQa.out hX2
        have hBw : B ≤ w2.heap.size := by have := Ob.lt OB2; omega
        go_wp2_with (at_builtin; (refine wpl_app tItem rfl (.tmp 18) (.tmp 25) rfl rfl ho2 rfl (src_sl Try.underlying45 f9.out (itc_one _) (by omega)) (by unfold maxLen; omega) (by omega) hBw ?_; intro v8 w8 ho8 hg8 hd8; have OB8 := Ob.grown OB2 hg8 (fun e => hne.out (by rw [← hMh.out]; exact e.symm)); have z1 := OB8.cell 1 rfl; have z2 := OB8.cell 2 rfl; have zf1 := OB8.free 1; have zf2 := OB8.free 2; have zlt := OB8.lt; haveI : In q w8 := ⟨zlt⟩; obtain ⟨A8, c8, q8⟩ := own_form ho8; subst q8; have OB9 := OB8.set 1 (.slice A8 (M + 1) c8); have OB10 := OB9.set 2 (.int .i64 (n + k + 1)); have F10 := ((Ft.refl (B := B) (Ts := [47]) w8).set (i := 1) (u := .slice A8 (M + 1) c8) hBq OB8 (by simp)).set (i := 2) (u := .int .i64 (n + k + 1)) hBq OB9 (by simp); have hOI := own_appI (l := H) (x := ((xa, xn), n + (k : Int))) (by rw [← hMh.out]; exact F10.own ho8 (by decide)); have hRs := hide (rise_c (H ++ [((xa, xn), n + (k : Int))]) (by rw [List.length_append, ← hMh.out]; simp; omega) q H.length (by simp) hup.out B _ _ _ OB10 hOI hBq); rw [← hMh.out] at hRs; have hF8 := hide ((((hFa.out.trans (Ft.of_ext hX2)).grown hg8 (fun kk hk => by obtain ⟨u1, u2, u3, u4⟩ := own_typed ho2 kk hk; exact ⟨u1, u2, _, u3, u4, by simp⟩)).set (i := 1) (u := .slice A8 (M + 1) c8) hBq OB8 (by simp)).set (i := 2) (u := .int .i64 (n + k + 1)) hBq OB9 (by simp)); replace OB8 := hide OB8; replace OB9 := hide OB9; replace OB10 := hide OB10; replace F10 := hide F10; replace hOI := hide hOI))
        dsimp only [onN, Exit.then]
        go_wp2_with (go_at_call 18; (refine hRs.out.mono ?_; rintro ee w11 ⟨rfl, H', r1, r2, r3, r4, r5⟩; replace r1 := hide r1; replace r2 := hide r2; replace r3 := hide r3; replace r4 := hide r4; replace r5 := hide r5))
        go_roundg (l.length - (k + 1))
        case measure => omega
        case rel => exact ⟨k + 1, by go_num, by omega, P' ++ [((xa, xn), n + (k : Int))], hnx.out, hPl2.out, by
          have e9 : n + (k : Int) + 1 = n + ((k + 1 : Nat) : Int) := by omega
          rw [← e9]
          exact ⟨_, H', r3.out, r4.out, r1.out, r2.out.trans hperm2.out, hnum2.out, hBq⟩, hF8.out.trans r5.out⟩
    · have hge : (l.length : Int) ≤ k := by omega
      have hkl : k = l.length := by omega
      have hfin : Hid ((∃ P', ths P' = ths P ++ l ∧ QS wr B q P' (n + l.length)) ∧ Ft B Tq w wr) := by
        obtain ⟨P', h1, h2, h3, h4⟩ := hrr.out
        rw [hkl, List.take_length] at h1
        rw [hkl] at h3
        exact ⟨⟨P', h1, h3⟩, h4⟩
      replace hkl := hide hkl
      clear hrr
      go_wp2_with fail
      go_returns
      exact ⟨rfl, hfin.out⟩
end Go.Proofs.Ytjibolpegijhkaa
