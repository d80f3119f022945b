/-
  A helper of ours: no claim of its own. Layer 7 (schema): the next schema that a reader has, by the document.
-/
import Derived.Test.YtbapkkijfmdcoaaSchR
import Derived.Test.YtbapkkijfmdcoaaReg2
import Derived.BigQuiet
set_option linter.unusedVariables false
set_option linter.unusedSimpArgs false
namespace Go.Proofs.Ytbapkkijfmdcoaa
open Go.RowKit
attribute [local go_sem] GW.cell GW.frozen In.eq_true In.le_true In.ne In.ne' In.ne_add In.ne_add' In.lt_add Upto.le_true Upto.le_add Upto.lt_add
theorem src_colB {P : Program} {tx e' : TypeId} (hk : P.underlying tx = some (.slice e')) (w : World) (x : Cl) (E : TypeId) (B : Nat) (hB : w.heap.size = B) : Src P 2 tx (.slice (some ⟨B, 0, none⟩) 1 1) 1 (cc x) (w.alloc (.cells #[.string x.1, .int .i64 x.2] E)) := by
  subst hB; exact src_col hk w x E
abbrev zcol : Obj := .cells #[.string ⟨#[]⟩, .int .i64 0] 34
set_option maxHeartbeats 8000000 in
set_option maxRecDepth 100000 in
theorem refSchRead_nil (S : List Nat) (b : Nat) (w : World) (h : Qdr w S b ([], 0)) : Calls Try.prog 35 #[.pointer (some ⟨b, 0, none⟩)] w fun z w' => ∃ v', z = .returned (.tuple #[v', .int .i64 (scE ([]))]) ∧ OwnC w' w.heap.size v' (scV ([])) ∧ Qdr w' S b (scS ([])) ∧ Fr [b] w w' := by
  have hb := h.blt
  have hR0 := hide h
  clear h
  rw [show scE [] = 5 from rfl, show scV [] = [] from rfl, show scS [] = ([], 5) from rfl]
  go_enter Try.func35, Try.ntmps35
  go_wp2_with (first | (go_at_call 61; refine (qbyte_c _ b [] 0 _ hR0.out).mono ?_; rintro ee w1 ⟨rfl, hR1, hF1⟩; replace hR1 : Qdr w1 S b ([], 5) := hR1; have q1 := hR1.err; have hblt1 := hR1.blt; haveI : In b w1 := ⟨hblt1⟩))
  go_quiet (fail)
  go_wp2_with fail
  go_returns
  exact ⟨_, rfl, World.ownsRow_nil _ _ _ _, hR1, hF1.drewN _⟩
set_option maxHeartbeats 8000000 in
set_option maxRecDepth 100000 in
theorem refSchRead_bad (S : List Nat) (b : Nat) (c : UInt8) (r : List UInt8) (h8 : c.toNat = 0 ∨ 8 < c.toNat) (w : World) (h : Qdr w S b (c :: r, 0)) : Calls Try.prog 35 #[.pointer (some ⟨b, 0, none⟩)] w fun z w' => ∃ v', z = .returned (.tuple #[v', .int .i64 (scE (c :: r))]) ∧ OwnC w' w.heap.size v' (scV (c :: r)) ∧ Qdr w' S b (scS (c :: r)) ∧ Fr [b] w w' := by
  have hb := h.blt
  have hR0 := hide h
  clear h
  have e1 : scE (c :: r) = 4 := by simp only [scE]; rw [if_pos h8]
  have e2 : scV (c :: r) = [] := by unfold scV; rw [e1, if_neg (by decide)]
  have e3 : scS (c :: r) = (r, 0) := by simp only [scS]; rw [if_pos h8]
  rw [e1, e2, e3]
  obtain ⟨n, hn⟩ : ∃ n, c.toNat = n := ⟨_, rfl⟩
  have hbv : (byteVal (c :: r) 0).toNat = n := hn
  have h255 : (n : Int) ≤ 255 := by have := c.toNat_lt; omega
  rw [hn] at h8
  replace hbv := hide hbv
  clear e1 e2 e3 hn
  by_cases h0 : n = 0
  · subst h0
    clear h8 h255
    go_enter Try.func35, Try.ntmps35
    go_wp2_with (first | (go_at_call 61; refine (qbyte_c _ b (c :: r) 0 _ hR0.out).mono ?_; rintro ee w1 ⟨rfl, hR1, hF1⟩; rw [hbv.out]; replace hR1 : Qdr w1 S b (r, 0) := hR1; have q1 := hR1.err; have hblt1 := hR1.blt; haveI : In b w1 := ⟨hblt1⟩))
    go_returns
    exact ⟨_, rfl, World.ownsRow_nil _ _ _ _, hR1, hF1⟩
  · have h8I : (8 : Int) < n := by omega
    have hn0 : ((n : Int) == 0) = false := by simp; omega
    clear h8 h0
    go_enter Try.func35, Try.ntmps35
    go_wp2_with (first | (go_at_call 61; refine (qbyte_c _ b (c :: r) 0 _ hR0.out).mono ?_; rintro ee w1 ⟨rfl, hR1, hF1⟩; rw [hbv.out]; replace hR1 : Qdr w1 S b (r, 0) := hR1; have q1 := hR1.err; have hblt1 := hR1.blt; haveI : In b w1 := ⟨hblt1⟩))
    go_returns
    exact ⟨_, rfl, World.ownsRow_nil _ _ _ _, hR1, hF1⟩
set_option maxHeartbeats 8000000 in
set_option maxRecDepth 100000 in
theorem refSchRead_cols (S : List Nat) (b : Nat) (c : UInt8) (r : List UInt8) (h8 : ¬ (c.toNat = 0 ∨ 8 < c.toNat)) (w : World) (h : Qdr w S b (c :: r, 0)) : Calls Try.prog 35 #[.pointer (some ⟨b, 0, none⟩)] w fun z w' => ∃ v', z = .returned (.tuple #[v', .int .i64 (scE (c :: r))]) ∧ OwnC w' w.heap.size v' (scV (c :: r)) ∧ Qdr w' S b (scS (c :: r)) ∧ Fr [b] w w' := by
  have hb := h.blt
  have hbS := h.1
  have hR0 := hide h
  clear h
  have hends := sc_ends c r h8
  obtain ⟨n, hn⟩ : ∃ n, n = c.toNat := ⟨_, rfl⟩
  rw [← hn] at hends h8
  obtain ⟨RE, hRE⟩ : ∃ x, scE (c :: r) = x := ⟨_, rfl⟩
  obtain ⟨RV, hRV⟩ : ∃ x, scV (c :: r) = x := ⟨_, rfl⟩
  obtain ⟨RS, hRS⟩ : ∃ x, scS (c :: r) = x := ⟨_, rfl⟩
  rw [hRE, hRV, hRS] at hends ⊢
  obtain ⟨AV, hAV⟩ : ∃ x, csV n (r, 0) = x := ⟨_, rfl⟩
  obtain ⟨AS, hAS⟩ : ∃ x, csS n (r, 0) = x := ⟨_, rfl⟩
  rw [hAV, hAS] at hends
  have hI : Hid (AV = [] ++ csV n (r, 0) ∧ AS = csS n (r, 0)) := ⟨hAV.symm, hAS.symm⟩
  replace hends := hide hends
  have hbv : (byteVal (c :: r) 0).toNat = n := hn.symm
  have hn8 : n ≤ 8 := by omega
  have h8I : (n : Int) ≤ 8 := by omega
  have hn0 : ((n : Int) == 0) = false := by simp; omega
  have hnI : (1 : Int) ≤ n := by omega
  replace hbv := hide hbv
  clear hRE hRV hRS hAV hAS hn h8
  go_enter Try.func35, Try.ntmps35
  go_wp2_with (first | (go_at_call 61; refine (qbyte_c _ b (c :: r) 0 _ hR0.out).mono ?_; rintro ee w1 ⟨rfl, hR1, hF1⟩; rw [hbv.out]; replace hR1 : Qdr w1 S b (r, 0) := hR1; have q1 := hR1.err; have hblt1 := hR1.blt; haveI : In b w1 := ⟨hblt1⟩; have hlit := World.ownsRow_lit (base := w.heap.size) (e := 34) (size := 2) w1 #[] 0 hF1.size (by decide) rfl))
  go_loopg [5, 6] n (fun gh vv i wr => ∃ (k : Nat) (acc : List Cl) (l1 : List UInt8) (e1 : Int), i = .int .i64 k ∧ k + gh = n ∧ OwnC wr w.heap.size vv acc ∧ acc.length ≤ k ∧ Qdr wr (ob vv ++ S) b (l1, e1) ∧ Hid (AV = acc ++ csV gh (l1, e1) ∧ AS = csS gh (l1, e1)) ∧ Fr [b] w wr)
  case atStart => exact ⟨0, [], r, 0, rfl, by omega, hlit, Nat.le_refl _, qdr_ext (hR1.front' (.cells #[] 34) |>.more (fun x hx => by simp [ob, Value.ownBlock] at hx ⊢; exact .inl hx) (by simp [hbS])) (Ext.refl _), hI, hF1.alloc _⟩
  case round =>
    obtain ⟨k, acc, l1, e1, rfl, hk, ho, hak, hR, hIk, hF⟩ := hrel
    clear hI
    have hzF := hF.size
    have hobg := ob_ge ho
    by_cases hlt : k < n
    · have hkI : (k : Int) < n := by omega
      obtain ⟨gh', rfl⟩ : ∃ g', gk = g' + 1 := ⟨gk - 1, by omega⟩
      obtain ⟨T, hT⟩ : ∃ T, (⟨(textVal 16 l1 e1).toArray⟩ : ByteArray) = T := ⟨_, rfl⟩
      obtain ⟨⟨l2, e2⟩, hSt⟩ : ∃ p, textSt 16 l1 e1 = p := ⟨_, rfl⟩
      obtain ⟨m, hmv⟩ : ∃ m, (byteVal l2 e2).toNat = m := ⟨_, rfl⟩
      obtain ⟨⟨l3, e3⟩, hBt⟩ : ∃ p, byteSt l2 e2 = p := ⟨_, rfl⟩
      have hm255 : (m : Int) ≤ 255 := by have := (byteVal l2 e2).toNat_lt; omega
      obtain ⟨i1, i2⟩ := hIk.out
      have ec : colSt (l1, e1) = (l3, e3) := by unfold colSt; simp only; rw [hSt]; exact hBt
      have ev : colV (l1, e1) = (T, (m : Int)) := by unfold colV; simp only; rw [hSt, hT, hmv]
      simp only [csV, csS] at i1 i2
      rw [ec, ev] at i1
      rw [ec] at i2
      have hIn := hide (show AV = (acc ++ [(T, (m : Int))]) ++ csV gh' (l3, e3) ∧ AS = csS gh' (l3, e3) from ⟨by rw [i1]; simp, i2⟩)
      have hbl' : b < wr.heap.size := hR.blt
      replace hT := hide hT
      replace hSt := hide hSt
      replace hmv := hide hmv
      replace hBt := hide hBt
      clear i1 i2 ec ev hIk
      have hlw : ∀ x ∈ ob u5, x < wr.heap.size := fun x hx => (hobg x hx).2
      have hQ0 := hide (hR.front' zcol)
      have O0 := hide (Ob.new wr 34 [.string ⟨#[]⟩, .int .i64 0])
      have hF0 := hide (hF.alloc zcol)
      have hne : wr.heap.size ≠ b := by omega
      have hb5 := ho
      go_wp2_with (first | (go_at_call 62; refine (qtext_c (wr.heap.size :: (ob u5 ++ S)) b l1 e1 16 _ hQ0.out).mono ?_; rintro ee w2 ⟨rfl, hR2, hF2⟩; rw [hT.out]; rw [hSt.out] at hR2; have hz2 := hF2.size; have O2 := O0.out.fr hF2 (by simp; exact hne); have k0 := O2.cell 0 rfl; have k1 := O2.cell 1 rfl; have zk0 := O2.free 0; have zk1 := O2.free 1; have hlt2 := O2.lt; haveI : In wr.heap.size w2 := ⟨hlt2⟩; have hG2 := hide ((((Fr.refl [b] wr).alloc zcol).trans hF2).setCell ⟨wr.heap.size, 0, none⟩ (.string T) (.inr (Nat.le_refl _))); have hQ2 := hide (hR2.fr (S' := [wr.heap.size]) ((Fr.refl [wr.heap.size] w2).setCell ⟨wr.heap.size, 0, none⟩ (.string T) (.inl (by simp))) (by simp; omega) (by simp)); replace O2 := hide (O2.set 0 (.string T))) | (go_at_call 61; refine (qbyte_c (wr.heap.size :: (ob u5 ++ S)) b l2 e2 _ hQ2.out).mono ?_; rintro ee w3 ⟨rfl, hR3, hF3⟩; rw [hmv.out]; rw [hBt.out] at hR3; have hz3 := hF3.size; have O3 := O2.out.fr hF3 (by simp; exact hne); have k2 := O3.cell 0 rfl; have k3 := O3.cell 1 rfl; have zk2 := O3.free 0; have zk3 := O3.free 1; have hlt3 := O3.lt; haveI : In wr.heap.size w3 := ⟨hlt3⟩; have hG3 := hide ((hG2.out.trans hF3).setCell ⟨wr.heap.size, 1, none⟩ (.int .i64 m) (.inr (Nat.le_refl _))); have hQ3 := hide (hR3.fr (S' := [wr.heap.size]) ((Fr.refl [wr.heap.size] w3).setCell ⟨wr.heap.size, 1, none⟩ (.int .i64 m) (.inl (by simp))) (by simp; omega) (by simp))) | (at_builtin; (refine wpl_app tCol rfl (.tmp 40) (.tmp 42) rfl rfl (own_ext (own_fr ho hG3.out (by simp; omega)) ((Ext.refl _).alloc _)) rfl (src_colB Try.underlying25 _ (T, (m : Int)) _ _ (World.size_setCell _ _ _)) (by unfold maxLen; omega) (by omega) (by simp only [World.size_alloc, World.size_setCell]; omega) ?_; intro v2 w4 ho2 hg2 hob2)))
      go_roundg gh'
      case measure => omega
      case rel =>
        have ho3 : OwnC w4 w.heap.size v2 (acc ++ [(T, (m : Int))]) := own_appC (m := [(T, (m : Int))]) (by simpa [cl] using ho2)
        have hR4 := qdr_app (S := S) (base := w.heap.size) (qdr_ext (hQ3.out.less (S' := ob u5 ++ S) (fun x hx => List.mem_cons_of_mem _ hx) (by simp [hbS])) ((Ext.refl _).alloc _)) hbS hg2 hob2 (fun k hk => (hobg k hk).1) hb
        exact ⟨k + 1, acc ++ [(T, (m : Int))], l3, e3, by go_num, by omega, ho3, by rw [List.length_append, List.length_singleton]; omega, hR4, hIn, ((hF.trans hG3.out).alloc _).grown hg2 (fun k hk => .inr (hobg k (by unfold ob; rw [show (u5).ownBlock = some k from hk]; exact List.mem_singleton.2 rfl)).1)⟩
    · have hk' : k = n := by omega
      have hge : (n : Int) ≤ k := by omega
      have hg0 : gk = 0 := by omega
      obtain ⟨i1, i2⟩ := hIk.out
      rw [hg0] at i1 i2
      replace i1 : AV = acc := by rw [i1]; show acc ++ [] = acc; simp
      replace i2 : AS = (l1, e1) := i2
      obtain ⟨z1, z2, z3, z4⟩ := hends.out acc (l1, e1) i1.symm i2.symm
      replace z2 : e1 ≠ 0 → RE = e1 ∧ RV = [] := z2
      replace z3 : e1 = 0 → mayS acc = true → RE = 0 ∧ RV = acc := z3
      replace z4 : e1 = 0 → mayS acc = false → RE = 17 ∧ RV = [] := z4
      have hcw := hide (fun w' (hX : Ext wr w') => refMayS_c acc _ w' (Sl.ext (own_cw (S := []) ho (by simp)) hX))
      obtain ⟨A6, cp6, rfl⟩ := own_form ho
      have q1 := hR.err
      have hbl' : b < wr.heap.size := hR.blt
      haveI : In b wr := ⟨hbl'⟩
      replace z1 := hide z1
      replace hk' := hide hk'
      replace hg0 := hide hg0
      clear i1 i2 hIk hends
      by_cases he : e1 = 0
      · subst he
        clear z2
        cases hm : mayS acc
        · obtain ⟨y1, y2⟩ := z4 rfl hm
          rw [hm] at hcw
          replace y1 := hide y1
          replace y2 := hide y2
          clear z3 z4 hm
          go_wp2_with (first | (go_at_call 13; (with_reducible refine seq_gw (hcw.out _ (Ext.refl _)) ?_); intro g))
          go_returns
          rw [y1.out, y2.out, z1.out]
          exact ⟨_, rfl, World.ownsRow_nil _ _ _ _, qdr_ext (hR.less (fun x hx => by simp [hx]) hbS) g.grown, hF.trans (Fr.of_ext g.grown)⟩
        · obtain ⟨y1, y2⟩ := z3 rfl hm
          rw [hm] at hcw
          replace y1 := hide y1
          replace y2 := hide y2
          clear z3 z4 hm
          go_wp2_with (first | (go_at_call 13; (with_reducible refine seq_gw (hcw.out _ (Ext.refl _)) ?_); intro g))
          go_returns
          rw [y1.out, y2.out, z1.out]
          exact ⟨_, rfl, own_ext ho g.grown, qdr_ext (hR.less (fun x hx => by simp [hx]) hbS) g.grown, hF.trans (Fr.of_ext g.grown)⟩
      · obtain ⟨y1, y2⟩ := z2 he
        have hne : (e1 != 0) = true := by simp [he]
        replace y1 := hide y1
        replace y2 := hide y2
        clear z2 z3 z4 hcw
        replace he := hide he
        go_wp2_with fail
        go_quiet (fail)
        go_wp2_with fail
        go_returns
        rw [y1.out, y2.out, z1.out]
        exact ⟨_, rfl, World.ownsRow_nil _ _ _ _, hR.less (fun x hx => by simp [hx]) hbS, hF.drewN _⟩
theorem refSchRead_c (S : List Nat) (b : Nat) (l : List UInt8) (w : World) (h : Qdr w S b (l, 0)) : Calls Try.prog 35 #[.pointer (some ⟨b, 0, none⟩)] w fun z w' => ∃ v', z = .returned (.tuple #[v', .int .i64 (scE l)]) ∧ OwnC w' w.heap.size v' (scV l) ∧ Qdr w' S b (scS l) ∧ Fr [b] w w' := by
  rcases l with _ | ⟨c, r⟩
  · exact refSchRead_nil S b w h
  · by_cases h8 : c.toNat = 0 ∨ 8 < c.toNat
    · exact refSchRead_bad S b c r h8 w h
    · exact refSchRead_cols S b c r h8 w h
end Go.Proofs.Ytbapkkijfmdcoaa
