/-
  A helper of ours: no claim of its own. Layer 3 (bin): what a reader reads.
-/
import Derived.Test.YtopgapbipmblbaaBinB
import Derived.WalkSpells
import Derived.Deep.LoopGhost
set_option linter.unusedVariables false
set_option linter.unusedSimpArgs false
namespace Go.Proofs.Ytopgapbipmblbaa
open Go.RowKit
attribute [local go_sem] GW.cell GW.frozen In.eq_true In.le_true In.ne In.ne' In.ne_add In.ne_add' In.lt_add Upto.le_true Upto.le_add Upto.lt_add
attribute [-go_sem] sliced
attribute [local go_sem] sliced_eq


theorem rnum_c (S : List Nat) (b : Nat) (l : List UInt8) (e : Int) (w : World) (h : Rdr w S b (l, e)) : Calls Try.prog 74 #[.pointer (some ⟨b, 0, none⟩)] w fun r w' => r = .returned (.int .i64 (numVal 9 l e)) ∧ Rdr w' S b (numSt 9 l e) ∧ Fr [b] w w' := by
  have hst := num_st (most := 9) (by omega) h.2.1
  have hv := parV_nine l
  replace hst := hide hst
  go_enter Try.func74, Try.ntmps74
  go_wp2_with (first | (go_at_call 72; refine (collect_c S b l 9 (.inl rfl) e _ h).mono ?_; rintro ee w1 ⟨rfl, hR1, hF1⟩) | (go_at_call 55; refine (fail_c S b _ e _ _ hR1).mono ?_; rintro ee w2 ⟨rfl, hR2, hF2⟩))
  go_returns
  rw [hst.out.1] at hR2
  exact ⟨by rw [← hst.out.2]; rfl, hR2, hF1.trans hF2⟩
theorem unzigzag_c (n : Int) (h0 : 0 ≤ n) (h1 : n ≤ 18446744073709551615) (w : World) : Calls Try.prog 73 #[.int .u64 n] w fun e w' => e = .returned (.int .i64 (unz n.toNat)) ∧ w = w' := by
  have ea := and_u64_one n h0 h1
  rcases (by omega : n % 2 = 0 ∨ n % 2 = 1) with h | h
  · have eu := hide (show unz n.toNat = n / 2 by unfold unz; rw [if_neg (by omega)]; omega)
    rw [h] at ea
    have ex := xor_i64_zero (n / 2) (by omega)
    go_enter Try.func73, Try.ntmps73
    go_wp2_with fail
    go_ret
    exact ⟨by rw [eu.out]; rfl, rfl⟩
  · have eu := hide (show unz n.toNat = -1 - n / 2 by unfold unz; rw [if_pos (by omega)]; omega)
    rw [h] at ea
    have ex := xor_i64_ones (n / 2) (by omega)
    go_enter Try.func73, Try.ntmps73
    go_wp2_with fail
    go_ret
    exact ⟨by rw [eu.out]; rfl, rfl⟩
theorem rint_c (S : List Nat) (b : Nat) (l : List UInt8) (e : Int) (w : World) (h : Rdr w S b (l, e)) : Calls Try.prog 56 #[.pointer (some ⟨b, 0, none⟩)] w fun r w' => r = .returned (.int .i64 (unz (numVal 10 l e))) ∧ Rdr w' S b (numSt 10 l e) ∧ Fr [b] w w' := by
  have hst := num_st (most := 10) (by omega) h.2.1
  have hv := parV_ten l
  replace hst := hide hst
  go_enter Try.func56, Try.ntmps56
  go_wp2_with (first | (go_at_call 72; refine (collect_c S b l 10 (.inr rfl) e _ h).mono ?_; rintro ee w1 ⟨rfl, hR1, hF1⟩) | (go_at_call 55; refine (fail_c S b _ e _ _ hR1).mono ?_; rintro ee w2 ⟨rfl, hR2, hF2⟩) | (go_at_call 73; refine (unzigzag_c _ (by omega) hv _).mono ?_; rintro ee w3 ⟨rfl, rfl⟩))
  go_returns
  rw [hst.out.1] at hR2
  exact ⟨by rw [← hst.out.2]; rfl, hR2, hF1.trans hF2⟩
theorem left_c (S : List Nat) (b : Nat) (l : List UInt8) (e : Int) (w : World) (h : Rdr w S b (l, e)) : Calls Try.prog 15 #[.pointer (some ⟨b, 0, none⟩)] w fun r w' => r = .returned (.int .i64 l.length) ∧ w = w' := by
  obtain ⟨hb, hi, v, hO, hB⟩ := h
  have c0 := hO.cell 0 rfl
  obtain ⟨A, cap, rfl, h1, h2, h3, h4⟩ := hB
  clear h4 h3 hO hi
  go_enter Try.func15, Try.ntmps15
  go_wp2_with fail
  go_returns
  exact ⟨rfl, rfl⟩
theorem err_c (S : List Nat) (b : Nat) (l : List UInt8) (e : Int) (w : World) (h : Rdr w S b (l, e)) : Calls Try.prog 34 #[.pointer (some ⟨b, 0, none⟩)] w fun r w' => r = .returned (.int .i64 e) ∧ w = w' := by
  obtain ⟨hb, hi, v, hO, hB⟩ := h
  have c1 := hO.cell 1 rfl
  clear hB hO hi
  go_enter Try.func34, Try.ntmps34
  go_wp2_with fail
  go_returns
  exact ⟨rfl, rfl⟩
theorem rbyte_c (S : List Nat) (b : Nat) (l : List UInt8) (e : Int) (w : World) (h : Rdr w S b (l, e)) : Calls Try.prog 33 #[.pointer (some ⟨b, 0, none⟩)] w fun r w' => r = .returned (.int .u8 (byteVal l e).toNat) ∧ Rdr w' S b (byteSt l e) ∧ Fr [b] w w' := by
  rcases l with _ | ⟨c, r⟩
  · have e1 := hide (show byteVal [] e = 0 by unfold byteVal; split <;> rfl)
    have e2 := hide (show byteSt [] e = failSt [] e 5 by
      unfold byteSt
      split
      · rename_i he; subst he; rw [failSt_new _ (by decide)]; rfl
      · rename_i he; rw [failSt_old _ _ he])
    go_enter Try.func33, Try.ntmps33
    go_wp2_with (first | (go_at_call 54; refine (next_nil S b e _ h).mono ?_; rintro ee w1 ⟨rfl, rfl⟩) | (go_at_call 55; refine (fail_c S b _ e _ _ h).mono ?_; rintro ee w2 ⟨rfl, hR2, hF2⟩))
    go_returns
    exact ⟨by rw [e1.out]; rfl, by rw [e2.out]; exact hR2, hF2⟩
  · have he : e = 0 := by
      by_cases he : e = 0
      · exact he
      · have := h.2.1 he; simp at this
    subst he
    have e1 := hide (show byteVal (c :: r) 0 = c by unfold byteVal; rw [if_pos rfl]; rfl)
    have e2 := hide (show byteSt (c :: r) 0 = (r, 0) by unfold byteSt; rw [if_pos rfl, if_neg (by simp)]; rfl)
    go_enter Try.func33, Try.ntmps33
    go_wp2_with (go_at_call 54; refine (next_cons S b c r 0 _ h).mono ?_; rintro ee w1 ⟨rfl, hR1, hF1⟩)
    go_returns
    exact ⟨by rw [e1.out]; rfl, by rw [e2.out]; exact hR1, hF1⟩
theorem ptext_no (S : List Nat) (b : Nat) (l : List UInt8) (e : Int) (n : Nat) (hn : l.length < n) (w : World) (h : Rdr w S b (l, e)) : Calls Try.prog 75 #[.pointer (some ⟨b, 0, none⟩), .int .i64 n] w fun r w' => r = .returned (.string ⟨#[]⟩) ∧ Rdr w' S b (failSt l e 5) ∧ Fr [b] w w' := by
  have hR := hide h
  obtain ⟨hb, hi, v, hO, hB⟩ := h
  have c0 := hO.cell 0 rfl
  obtain ⟨A, cap, rfl, h1, h2, h3, h4⟩ := hB
  clear h4 h3 hO hi
  go_enter Try.func75, Try.ntmps75
  go_wp2_with (go_at_call 55; refine (fail_c S b _ e _ _ hR.out).mono ?_; rintro ee w2 ⟨rfl, hR2, hF2⟩)
  go_returns
  exact ⟨rfl, hR2, hF2⟩
set_option maxRecDepth 100000 in
theorem ptext_ok (S : List Nat) (b : Nat) (l : List UInt8) (e : Int) (n : Nat) (hn : n ≤ l.length) (w : World) (h : Rdr w S b (l, e)) : Calls Try.prog 75 #[.pointer (some ⟨b, 0, none⟩), .int .i64 n] w fun r w' => r = .returned (.string ⟨(l.take n).toArray⟩) ∧ Rdr w' S b (l.drop n, e) ∧ Fr [b] w w' := by
  obtain ⟨hb, hi, v, hO, hB⟩ := h
  have c0 := hO.cell 0 rfl
  have f0 := hO.free 0
  obtain ⟨A, cap, rfl, h1, h2, h3, h4⟩ := id hB
  unfold maxLen at h2
  replace h1 : l.length ≤ cap := h1
  have hnc : (n : Int) ≤ (cap : Int) := by omega
  have hnl : (n : Int) ≤ (l.length : Int) := by omega
  have ht := hB.cut 0 n cap (by omega) (by simpa using hn) (by omega) (Nat.le_refl _)
  have hd := hB.cut n l.length cap (by simpa using hn) (by simp) (by simpa using h1) (Nat.le_refl _)
  rw [sliced_eq, Nat.zero_mul, List.drop_zero, Nat.mul_one, bs_take, Nat.sub_zero, Nat.sub_zero] at ht
  rw [sliced_eq, Nat.mul_one, Nat.mul_one, List.take_of_length_le (by simp [bs]), bs_drop] at hd
  have ht' : By w S (.slice (cutA A 0 cap 1) n cap) (l.take n) := by unfold By; rw [List.length_take, Nat.min_eq_left hn]; exact ht
  have hcv := run_str (P := Try.prog) Try.underlying24 Try.underlying5 Try.underlying9 ht'
  have hd' : By w S (.slice (cutA A n cap 1) (l.length - n) (cap - n)) (l.drop n) := by unfold By; rw [List.length_drop]; exact hd
  replace hd := hide hd'
  replace hO := hide hO
  replace hi := hide hi
  clear h4 h3 hB ht ht' hd'
  go_enter Try.func75, Try.ntmps75
  go_wp2_with fail
  go_returns
  refine ⟨rfl, ⟨hb, fun he => by have h := hi.out he; show l.drop n = []; rw [show l = [] from h]; simp, _, hO.out.set 0 _, Sl.set hd.out _ _ hb⟩, (Fr.refl [b] w).setCell _ _ (.inl (by simp))⟩
theorem rtext_c (S : List Nat) (b : Nat) (l : List UInt8) (e most : Int) (w : World) (h : Rdr w S b (l, e)) : Calls Try.prog 57 #[.pointer (some ⟨b, 0, none⟩), .int .i64 most] w fun r w' => r = .returned (.string ⟨(textVal most l e).toArray⟩) ∧ Rdr w' S b (textSt most l e) ∧ Fr [b] w w' := by
  rcases hst : numSt 9 l e with ⟨l1, e1⟩
  have hst0 := hst
  by_cases he : e1 = 0
  · subst he
    by_cases hm : most < numVal 9 l e
    · have ht := hide (text_long (most := most) hst hm)
      clear hst0
      replace hst := hide hst
      go_enter Try.func57, Try.ntmps57
      go_wp2_with (first | (go_at_call 74; refine (rnum_c S b l e _ h).mono ?_; rintro ee w1 ⟨rfl, hR1, hF1⟩; rw [hst.out] at hR1) | (go_at_call 34; refine (err_c S b _ _ _ hR1).mono ?_; rintro ee w1 ⟨rfl, rfl⟩) | (go_at_call 55; refine (fail_c S b _ _ _ _ hR1).mono ?_; rintro ee w2 ⟨rfl, hR2, hF2⟩))
      go_returns
      exact ⟨by rw [ht.out.2]; rfl, by rw [ht.out.1]; exact hR2, hF1.trans hF2⟩
    by_cases hl : l1.length < numVal 9 l e
    · have ht := hide (text_end (most := most) hst hm hl)
      clear hst0
      replace hst := hide hst
      go_enter Try.func57, Try.ntmps57
      go_wp2_with (first | (go_at_call 74; refine (rnum_c S b l e _ h).mono ?_; rintro ee w1 ⟨rfl, hR1, hF1⟩; rw [hst.out] at hR1) | (go_at_call 34; refine (err_c S b _ _ _ hR1).mono ?_; rintro ee w1 ⟨rfl, rfl⟩) | (go_at_call 75; refine (ptext_no S b _ _ _ hl _ hR1).mono ?_; rintro ee w2 ⟨rfl, hR2, hF2⟩))
      go_returns
      exact ⟨by rw [ht.out.2]; rfl, by rw [ht.out.1]; exact hR2, hF1.trans hF2⟩
    have ht := hide (text_ok (most := most) hst hm hl)
    clear hst0
    replace hst := hide hst
    go_enter Try.func57, Try.ntmps57
    go_wp2_with (first | (go_at_call 74; refine (rnum_c S b l e _ h).mono ?_; rintro ee w1 ⟨rfl, hR1, hF1⟩; rw [hst.out] at hR1) | (go_at_call 34; refine (err_c S b _ _ _ hR1).mono ?_; rintro ee w1 ⟨rfl, rfl⟩) | (go_at_call 75; refine (ptext_ok S b _ _ _ (by omega) _ hR1).mono ?_; rintro ee w2 ⟨rfl, hR2, hF2⟩))
    go_returns
    exact ⟨by rw [ht.out.2]; rfl, by rw [ht.out.1]; exact hR2, hF1.trans hF2⟩
  · have ht := hide (text_dead (most := most) hst he)
    have e0 : (e1 != 0) = true := by simp [he]
    clear hst0
    replace hst := hide hst
    replace he := hide he
    go_enter Try.func57, Try.ntmps57
    go_wp2_with (first | (go_at_call 74; refine (rnum_c S b l e _ h).mono ?_; rintro ee w1 ⟨rfl, hR1, hF1⟩; rw [hst.out] at hR1) | (go_at_call 34; refine (err_c S b _ _ _ hR1).mono ?_; rintro ee w1 ⟨rfl, rfl⟩))
    go_returns
    exact ⟨by rw [ht.out.2]; rfl, by rw [ht.out.1]; exact hR1, hF1⟩
end Go.Proofs.Ytopgapbipmblbaa
