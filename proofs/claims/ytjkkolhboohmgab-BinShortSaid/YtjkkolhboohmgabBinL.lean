/-
  A helper of ours: no claim of its own. Layer 3 (bin): what must be whatever is asked.
-/
import Derived.Test.YtjkkolhboohmgabBinC
import Derived.WalkSpells
import Derived.Deep.LoopGhost
set_option linter.unusedVariables false
set_option linter.unusedSimpArgs false
namespace Go.Proofs.Ytjkkolhboohmgab
open Go.RowKit
attribute [local go_sem] GW.cell GW.frozen In.eq_true In.le_true In.ne In.ne' In.ne_add In.ne_add' In.lt_add Upto.le_true Upto.le_add Upto.lt_add
attribute [-go_sem] sliced
attribute [local go_sem] sliced_eq

theorem fr_ext {W w w' : World} {S : List Nat} (h : Ext W w) (k : Fr S w w') (hs : ∀ b, b ∈ S → W.heap.size ≤ b) : Ext W w' := ext_fr h k hs
def liveL : List UInt8 := [172, 2, 1, 2, 97, 98]
theorem by_lit (w : World) (l : List UInt8) (cs : Array Value) (n : Nat) (hn : n = l.length) (hc : cs.toList = bs l) (hm : l.length ≤ maxLen) (S : List Nat) (hS : ∀ b, b ∈ S → b < w.heap.size) : By (w.alloc (.cells cs 5)) S (.slice (some ⟨w.heap.size, 0, none⟩) n n) l := by
  subst hn
  have h := World.ownsRow_lit (base := w.heap.size) (e := 5) (size := 1) w cs l.length (Nat.le_refl _) hm (by rw [← Array.length_toList, hc, bs_length, Nat.mul_one])
  rw [hc] at h
  exact Sl.own h hS
set_option maxHeartbeats 1000000 in
set_option maxRecDepth 100000 in
theorem live_c (w : World) : Calls Try.prog 15 #[] w fun e w' => e = .returned (.bool true) ∧ Ext w w' := by
  have hB := by_lit w liveL #[.int .u8 172, .int .u8 2, .int .u8 1, .int .u8 2, .int .u8 97, .int .u8 98] 6 rfl rfl (by decide) [] (by simp)
  have e1 := hide (show numVal 9 liveL 0 = 300 ∧ numSt 9 liveL 0 = ([1, 2, 97, 98], 0) by decide +kernel)
  have e2 := hide (show unz (numVal 10 [1, 2, 97, 98] 0) = -1 ∧ numSt 10 [1, 2, 97, 98] 0 = ([2, 97, 98], 0) by decide +kernel)
  have e3 := hide (show textVal 2 [2, 97, 98] 0 = [97, 98] ∧ textSt 2 [2, 97, 98] 0 = ([], 0) by decide +kernel)
  have e4 := hide (show numB 300 = [172, 2] by unfold numB; rw [if_neg (by decide)]; rw [grp_great (by decide), grp_small (by decide)]; rfl)
  replace hB := hide hB
  go_enter Try.func15, Try.ntmps15
  go_wp2_with (first | (go_at_call 8; refine (newReader_c [] _ liveL (by decide) _ hB.out (by simp)).mono ?_; rintro ee w1 ⟨b, rfl, hb, hR1, hX1⟩) | (go_at_call 9; refine (rnum_c _ b _ _ _ hR1).mono ?_; rintro ee w2 ⟨rfl, hR2, hF2⟩; rw [e1.out.1]; rw [e1.out.2] at hR2) | (go_at_call 13; refine (rint_c _ b _ _ _ hR2).mono ?_; rintro ee w3 ⟨rfl, hR3, hF3⟩; rw [e2.out.1]; rw [e2.out.2] at hR3) | (go_at_call 31; refine (rtext_c _ b _ _ _ _ hR3).mono ?_; rintro ee w4 ⟨rfl, hR4, hF4⟩; rw [e3.out.1]; rw [e3.out.2] at hR4) | (go_at_call 10; refine (err_c _ b _ _ _ hR4).mono ?_; rintro ee w1 ⟨rfl, rfl⟩) | (go_at_call 11; refine (left_c _ b _ _ _ hR4).mono ?_; rintro ee w1 ⟨rfl, rfl⟩) | (go_at_call 12; refine (num_c 300 (by decide) _).mono ?_; rintro ee w5 ⟨v5, rfl, hown5, hX5⟩; rw [e4.out] at hown5; have hcv := run_str (P := Try.prog) Try.underlying22 Try.underlying5 Try.underlying9 (Sl.own (S := []) hown5 (by simp))))
  go_returns
  have hs : ∀ c, c ∈ [b] → w.heap.size ≤ c := by intro c hc; simp at hc; subst hc; simp at hb; omega
  exact ⟨rfl, (fr_ext (fr_ext (fr_ext (((Ext.refl w).alloc _).trans hX1) hF2 hs) hF3 hs) hF4 hs).trans hX5⟩
end Go.Proofs.Ytjkkolhboohmgab
