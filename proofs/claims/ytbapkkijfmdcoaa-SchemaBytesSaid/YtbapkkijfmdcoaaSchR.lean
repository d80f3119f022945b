/-
  A helper of ours: no claim of its own. Layer 7 (schema): the next schema that a reader has, by the code.
-/
import Derived.Test.YtbapkkijfmdcoaaSchH
import Derived.Test.YtbapkkijfmdcoaaSchK
import Derived.Test.YtbapkkijfmdcoaaRdA
set_option linter.unusedVariables false
set_option linter.unusedSimpArgs false
namespace Go.Proofs.Ytbapkkijfmdcoaa
open Go.RowKit
attribute [local go_sem] GW.cell GW.frozen In.eq_true In.le_true In.ne In.ne' In.ne_add In.ne_add' In.lt_add Upto.le_true Upto.le_add Upto.lt_add
set_option maxHeartbeats 8000000 in
set_option maxRecDepth 100000 in
theorem schRead_nil (S : List Nat) (b : Nat) (w : World) (h : Rdr w S b ([], 0)) : Calls Try.prog 33 #[.pointer (some ⟨b, 0, none⟩)] w fun z w' => ∃ v', z = .returned (.tuple #[v', .int .i64 (scE ([]))]) ∧ OwnC w' w.heap.size v' (scV ([])) ∧ Rdr w' S b (scS ([])) ∧ Fr [b] w w' := by
  have hb := h.blt
  have hR0 := hide h
  clear h
  rw [show scE [] = 5 from rfl, show scV [] = [] from rfl, show scS [] = ([], 5) from rfl]
  go_enter Try.func33, Try.ntmps33
  go_wp2_with (first | (go_at_call 58; refine (rbyte_c _ b [] 0 _ hR0.out).mono ?_; rintro ee w1 ⟨rfl, hR1, hF1⟩; replace hR1 : Rdr w1 S b ([], 5) := hR1; skip) | (go_at_call 59; refine (err_c _ b [] 5 _ hR1).mono ?_; rintro ee w9 ⟨rfl, rfl⟩))
  go_returns
  exact ⟨_, rfl, World.ownsRow_nil _ _ _ _, hR1, hF1⟩
set_option maxHeartbeats 8000000 in
set_option maxRecDepth 100000 in
theorem schRead_bad (S : List Nat) (b : Nat) (c : UInt8) (r : List UInt8) (h8 : c.toNat = 0 ∨ 8 < c.toNat) (w : World) (h : Rdr w S b (c :: r, 0)) : Calls Try.prog 33 #[.pointer (some ⟨b, 0, none⟩)] w fun z w' => ∃ v', z = .returned (.tuple #[v', .int .i64 (scE (c :: r))]) ∧ OwnC w' w.heap.size v' (scV (c :: r)) ∧ Rdr w' S b (scS (c :: r)) ∧ Fr [b] w w' := by
  have hb := h.blt
  have hR0 := hide h
  clear h
  have e1 : scE (c :: r) = 4 := by simp only [scE]; rw [if_pos h8]
  have e2 : scV (c :: r) = [] := by unfold scV; rw [e1, if_neg (by decide)]
  have e3 : scS (c :: r) = (r, 0) := by simp only [scS]; rw [if_pos h8]
  rw [e1, e2, e3]
  obtain ⟨n, hn⟩ : ∃ n, c.toNat = n := ⟨_, rfl⟩
  have hbv : (byteVal (c :: r) 0).toNat = n := hn
  have h255 : (n : Int) ≤ 255 := by have := c.toNat_lt; omega
  rw [hn] at h8
  replace hbv := hide hbv
  clear e1 e2 e3 hn
  by_cases h0 : n = 0
  · subst h0
    clear h8 h255
    go_enter Try.func33, Try.ntmps33
    go_wp2_with (first | (go_at_call 58; refine (rbyte_c _ b (c :: r) 0 _ hR0.out).mono ?_; rintro ee w1 ⟨rfl, hR1, hF1⟩; rw [hbv.out]; replace hR1 : Rdr w1 S b (r, 0) := hR1; skip) | (go_at_call 59; refine (err_c _ b r 0 _ hR1).mono ?_; rintro ee w9 ⟨rfl, rfl⟩))
    go_returns
    exact ⟨_, rfl, World.ownsRow_nil _ _ _ _, hR1, hF1⟩
  · have h8I : (8 : Int) < n := by omega
    have hn0 : ((n : Int) == 0) = false := by simp; omega
    clear h8 h0
    go_enter Try.func33, Try.ntmps33
    go_wp2_with (first | (go_at_call 58; refine (rbyte_c _ b (c :: r) 0 _ hR0.out).mono ?_; rintro ee w1 ⟨rfl, hR1, hF1⟩; rw [hbv.out]; replace hR1 : Rdr w1 S b (r, 0) := hR1; skip) | (go_at_call 59; refine (err_c _ b r 0 _ hR1).mono ?_; rintro ee w9 ⟨rfl, rfl⟩))
    go_returns
    exact ⟨_, rfl, World.ownsRow_nil _ _ _ _, hR1, hF1⟩
/-- What is answered, once all columns are read. -/
theorem sc_ends (c : UInt8) (r : List UInt8) (h : ¬ (c.toNat = 0 ∨ 8 < c.toNat)) : ∀ acc st, acc = csV c.toNat (r, 0) → st = csS c.toNat (r, 0) → scS (c :: r) = st ∧ (st.2 ≠ 0 → scE (c :: r) = st.2 ∧ scV (c :: r) = []) ∧ (st.2 = 0 → mayS acc = true → scE (c :: r) = 0 ∧ scV (c :: r) = acc) ∧ (st.2 = 0 → mayS acc = false → scE (c :: r) = 17 ∧ scV (c :: r) = []) := by
  rintro acc st rfl rfl
  refine ⟨by simp only [scS]; rw [if_neg h], fun h1 => ?_, fun h1 h2 => ?_, fun h1 h2 => ?_⟩
  · have e : scE (c :: r) = (csS c.toNat (r, 0)).2 := by simp only [scE]; rw [if_neg h, if_pos h1]
    exact ⟨e, by unfold scV; rw [e, if_neg h1]⟩
  · have e : scE (c :: r) = 0 := by simp only [scE]; rw [if_neg h, if_neg (fun k => k h1), if_pos h2]
    exact ⟨e, by unfold scV; rw [e, if_pos rfl]⟩
  · have e : scE (c :: r) = 17 := by simp only [scE]; rw [if_neg h, if_neg (fun k => k h1), if_neg (by rw [h2]; decide)]
    exact ⟨e, by unfold scV; rw [e, if_neg (by decide)]⟩
set_option maxHeartbeats 8000000 in
set_option maxRecDepth 100000 in
theorem schRead_cols (S : List Nat) (b : Nat) (c : UInt8) (r : List UInt8) (h8 : ¬ (c.toNat = 0 ∨ 8 < c.toNat)) (w : World) (h : Rdr w S b (c :: r, 0)) : Calls Try.prog 33 #[.pointer (some ⟨b, 0, none⟩)] w fun z w' => ∃ v', z = .returned (.tuple #[v', .int .i64 (scE (c :: r))]) ∧ OwnC w' w.heap.size v' (scV (c :: r)) ∧ Rdr w' S b (scS (c :: r)) ∧ Fr [b] w w' := by
  have hb := h.blt
  have hbS := h.1
  have hR0 := hide h
  clear h
  have hends := sc_ends c r h8
  obtain ⟨n, hn⟩ : ∃ n, n = c.toNat := ⟨_, rfl⟩
  rw [← hn] at hends h8
  obtain ⟨RE, hRE⟩ : ∃ x, scE (c :: r) = x := ⟨_, rfl⟩
  obtain ⟨RV, hRV⟩ : ∃ x, scV (c :: r) = x := ⟨_, rfl⟩
  obtain ⟨RS, hRS⟩ : ∃ x, scS (c :: r) = x := ⟨_, rfl⟩
  rw [hRE, hRV, hRS] at hends ⊢
  obtain ⟨AV, hAV⟩ : ∃ x, csV n (r, 0) = x := ⟨_, rfl⟩
  obtain ⟨AS, hAS⟩ : ∃ x, csS n (r, 0) = x := ⟨_, rfl⟩
  rw [hAV, hAS] at hends
  have hI : Hid (AV = [] ++ csV n (r, 0) ∧ AS = csS n (r, 0)) := ⟨hAV.symm, hAS.symm⟩
  replace hends := hide hends
  have hbv : (byteVal (c :: r) 0).toNat = n := hn.symm
  have hn8 : n ≤ 8 := by omega
  have h8I : (n : Int) ≤ 8 := by omega
  have hn0 : ((n : Int) == 0) = false := by simp; omega
  have hnI : (1 : Int) ≤ n := by omega
  replace hbv := hide hbv
  clear hRE hRV hRS hAV hAS hn h8
  go_enter Try.func33, Try.ntmps33
  go_wp2_with (first | (go_at_call 58; refine (rbyte_c _ b (c :: r) 0 _ hR0.out).mono ?_; rintro ee w1 ⟨rfl, hR1, hF1⟩; rw [hbv.out]; replace hR1 : Rdr w1 S b (r, 0) := hR1; skip) | (go_at_call 59; refine (err_c _ b r 0 _ hR1).mono ?_; rintro ee w9 ⟨rfl, rfl⟩))
  go_loopg [6, 24] n (fun gh vv i wr => ∃ (k : Nat) (acc : List Cl) (l1 : List UInt8) (e1 : Int), i = .int .i64 k ∧ k + gh = n ∧ OwnC wr w.heap.size vv acc ∧ acc.length ≤ k ∧ Rdr wr (ob vv ++ S) b (l1, e1) ∧ Hid (AV = acc ++ csV gh (l1, e1) ∧ AS = csS gh (l1, e1)) ∧ Fr [b] w wr)
  case atStart => exact ⟨0, [], r, 0, rfl, by omega, World.ownsRow_nil _ _ _ _, Nat.le_refl _, hR1, hI, hF1⟩
  case round =>
    obtain ⟨k, acc, l1, e1, rfl, hk, ho, hak, hR, hIk, hF⟩ := hrel
    clear hI
    have hzF := hF.size
    have hobg := ob_ge ho
    by_cases hlt : k < n
    · have hkI : (k : Int) < n := by omega
      obtain ⟨gh', rfl⟩ : ∃ g', gk = g' + 1 := ⟨gk - 1, by omega⟩
      obtain ⟨T, hT⟩ : ∃ T, (⟨(textVal 16 l1 e1).toArray⟩ : ByteArray) = T := ⟨_, rfl⟩
      obtain ⟨⟨l2, e2⟩, hSt⟩ : ∃ p, textSt 16 l1 e1 = p := ⟨_, rfl⟩
      obtain ⟨m, hmv⟩ : ∃ m, (byteVal l2 e2).toNat = m := ⟨_, rfl⟩
      obtain ⟨⟨l3, e3⟩, hBt⟩ : ∃ p, byteSt l2 e2 = p := ⟨_, rfl⟩
      have hm255 : (m : Int) ≤ 255 := by have := (byteVal l2 e2).toNat_lt; omega
      obtain ⟨i1, i2⟩ := hIk.out
      have ec : colSt (l1, e1) = (l3, e3) := by unfold colSt; simp only; rw [hSt]; exact hBt
      have ev : colV (l1, e1) = (T, (m : Int)) := by unfold colV; simp only; rw [hSt, hT, hmv]
      simp only [csV, csS] at i1 i2
      rw [ec, ev] at i1
      rw [ec] at i2
      have hIn := hide (show AV = (acc ++ [(T, (m : Int))]) ++ csV gh' (l3, e3) ∧ AS = csS gh' (l3, e3) from ⟨by rw [i1]; simp, i2⟩)
      have hbl' : b < wr.heap.size := hR.blt
      replace hT := hide hT
      replace hSt := hide hSt
      replace hmv := hide hmv
      replace hBt := hide hBt
      clear i1 i2 ec ev hIk
      go_wp2_with (first | (go_at_call 60; refine (rtext_c (ob u6 ++ S) b l1 e1 16 _ hR).mono ?_; rintro ee w2 ⟨rfl, hR2, hF2⟩; rw [hT.out]; rw [hSt.out] at hR2; have hz2 := hF2.size) | (go_at_call 58; refine (rbyte_c (ob u6 ++ S) b l2 e2 _ hR2).mono ?_; rintro ee w3 ⟨rfl, hR3, hF3⟩; rw [hmv.out]; rw [hBt.out] at hR3; have hz3 := hF3.size; replace hR3 := hide hR3) | (at_builtin; (refine wpl_app tCol rfl (.tmp 28) (.tmp 34) rfl rfl (own_ext (own_fr ho (hF2.trans hF3) (by simp; omega)) ((Ext.refl w3).alloc _)) rfl (src_col Try.underlying25 w3 (T, (m : Int)) _) (by unfold maxLen; omega) (by omega) (by simp only [World.size_alloc]; omega) ?_; intro v2 w4 ho2 hg2 hob2)))
      go_roundg gh'
      case measure => omega
      case rel =>
        have ho3 : OwnC w4 w.heap.size v2 (acc ++ [(T, (m : Int))]) := own_appC (m := [(T, (m : Int))]) (by simpa [cl] using ho2)
        have hR4 := rdr_app (base := w.heap.size) (rdr_ext hR3.out ((Ext.refl w3).alloc _)) hbS hg2 hob2 (fun k hk => (hobg k hk).1) hb
        exact ⟨k + 1, acc ++ [(T, (m : Int))], l3, e3, by go_num, by omega, ho3, by rw [List.length_append, List.length_singleton]; omega, hR4, hIn, (((hF.trans hF2).trans hF3).alloc _).grown hg2 (fun k hk => .inr (hobg k (by unfold ob; rw [show (u6).ownBlock = some k from hk]; exact List.mem_singleton.2 rfl)).1)⟩
    · have hk' : k = n := by omega
      have hge : (n : Int) ≤ k := by omega
      have hg0 : gk = 0 := by omega
      obtain ⟨i1, i2⟩ := hIk.out
      rw [hg0] at i1 i2
      replace i1 : AV = acc := by rw [i1]; show acc ++ [] = acc; simp
      replace i2 : AS = (l1, e1) := i2
      obtain ⟨z1, z2, z3, z4⟩ := hends.out acc (l1, e1) i1.symm i2.symm
      replace z2 : e1 ≠ 0 → RE = e1 ∧ RV = [] := z2
      replace z3 : e1 = 0 → mayS acc = true → RE = 0 ∧ RV = acc := z3
      replace z4 : e1 = 0 → mayS acc = false → RE = 17 ∧ RV = [] := z4
      have hcw := hide (fun w' (hX : Ext wr w') => mayS_c acc _ w' (Sl.ext (own_cw (S := []) ho (by simp)) hX))
      obtain ⟨A6, cp6, rfl⟩ := own_form ho
      replace z1 := hide z1
      replace hk' := hide hk'
      replace hg0 := hide hg0
      clear i1 i2 hIk hends
      by_cases he : e1 = 0
      · subst he
        clear z2
        cases hm : mayS acc
        · obtain ⟨y1, y2⟩ := z4 rfl hm
          rw [hm] at hcw
          replace y1 := hide y1
          replace y2 := hide y2
          clear z3 z4 hm
          go_wp2_with (first | (go_at_call 59; refine (err_c _ b l1 0 _ hR).mono ?_; rintro ee w9 ⟨rfl, rfl⟩) | (go_at_call 12; (with_reducible refine seq_gw (hcw.out _ (Ext.refl _)) ?_); intro g))
          go_returns
          rw [y1.out, y2.out, z1.out]
          exact ⟨_, rfl, World.ownsRow_nil _ _ _ _, rdr_ext (hR.less (fun x hx => by simp [hx]) hbS) g.grown, hF.trans (Fr.of_ext g.grown)⟩
        · obtain ⟨y1, y2⟩ := z3 rfl hm
          rw [hm] at hcw
          replace y1 := hide y1
          replace y2 := hide y2
          clear z3 z4 hm
          go_wp2_with (first | (go_at_call 59; refine (err_c _ b l1 0 _ hR).mono ?_; rintro ee w9 ⟨rfl, rfl⟩) | (go_at_call 12; (with_reducible refine seq_gw (hcw.out _ (Ext.refl _)) ?_); intro g))
          go_returns
          rw [y1.out, y2.out, z1.out]
          exact ⟨_, rfl, own_ext ho g.grown, rdr_ext (hR.less (fun x hx => by simp [hx]) hbS) g.grown, hF.trans (Fr.of_ext g.grown)⟩
      · obtain ⟨y1, y2⟩ := z2 he
        have hne : (e1 != 0) = true := by simp [he]
        replace y1 := hide y1
        replace y2 := hide y2
        clear z2 z3 z4 hcw
        replace he := hide he
        go_wp2_with (go_at_call 59; refine (err_c _ b l1 e1 _ hR).mono ?_; rintro ee w9 ⟨rfl, rfl⟩)
        go_returns
        rw [y1.out, y2.out, z1.out]
        exact ⟨_, rfl, World.ownsRow_nil _ _ _ _, hR.less (fun x hx => by simp [hx]) hbS, hF⟩
theorem schRead_c (S : List Nat) (b : Nat) (l : List UInt8) (w : World) (h : Rdr w S b (l, 0)) : Calls Try.prog 33 #[.pointer (some ⟨b, 0, none⟩)] w fun z w' => ∃ v', z = .returned (.tuple #[v', .int .i64 (scE l)]) ∧ OwnC w' w.heap.size v' (scV l) ∧ Rdr w' S b (scS l) ∧ Fr [b] w w' := by
  rcases l with _ | ⟨c, r⟩
  · exact schRead_nil S b w h
  · by_cases h8 : c.toNat = 0 ∨ 8 < c.toNat
    · exact schRead_bad S b c r h8 w h
    · exact schRead_cols S b c r h8 w h
end Go.Proofs.Ytbapkkijfmdcoaa
