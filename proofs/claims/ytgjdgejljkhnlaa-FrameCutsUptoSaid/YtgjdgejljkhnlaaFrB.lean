/-
  A helper of ours: no claim of its own. Layer 4 (frame): the cutter's own small methods.
-/
import Derived.Test.YtgjdgejljkhnlaaFrA
import Derived.Test.YtgjdgejljkhnlaaReg
set_option linter.unusedVariables false
set_option linter.unusedSimpArgs false
namespace Go.Proofs.Ytgjdgejljkhnlaa
open Go.RowKit
attribute [local go_sem] GW.cell GW.frozen In.eq_true In.le_true In.ne In.ne' In.ne_add In.ne_add' In.lt_add Upto.le_true Upto.le_add Upto.lt_add
theorem or_head (h0 h1 : Int) (b0 : 0 ≤ h0 ∧ h0 ≤ 255) (b1 : 0 ≤ h1 ∧ h1 ≤ 255) : bits .or .i64 (h0 * 256) h1 = h0 * 256 + h1 := by
  obtain ⟨a, rfl⟩ := Int.eq_ofNat_of_zero_le b0.1
  obtain ⟨c, rfl⟩ := Int.eq_ofNat_of_zero_le b1.1
  show IntKind.i64.wrap ((BitVec.ofInt 64 ((a : Int) * 256) ||| BitVec.ofInt 64 (c : Int)).toNat : Int) = _
  rw [BitVec.toNat_or, BitVec.toNat_ofInt, BitVec.toNat_ofInt]
  have e1 : (((a : Int) * 256) % ((2 ^ 64 : Nat) : Int)).toNat = 2 ^ 8 * a := by omega
  have e2 : ((c : Int) % ((2 ^ 64 : Nat) : Int)).toNat = c := by omega
  rw [e1, e2, ← Nat.two_pow_add_eq_or_of_lt (by omega : c < 2 ^ 8) a, IntKind.wrap_i64]
  omega
/-- The cutter's block. -/
def Cu (w : World) (b : Nat) (k h0 h1 : Int) (body : Value) : Prop := Ob w b 46 [.int .i64 k, .int .u8 h0, .int .u8 h1, body]
theorem held_c (w : World) (b : Nat) (k h0 h1 : Int) (body : Value) (h : Cu w b k h0 h1 body) : Calls Try.prog 14 #[.pointer (some ⟨b, 0, none⟩)] w fun e w' => e = .returned (.int .i64 k) ∧ w' = w := by
  have c0 := h.cell 0 rfl
  go_enter Try.func14, Try.ntmps14
  go_wp2_with fail
  go_returns
  exact ⟨rfl, rfl⟩
set_option maxHeartbeats 1000000 in
theorem length_c (w : World) (b : Nat) (k h0 h1 : Int) (body : Value) (h : Cu w b k h0 h1 body) (b0 : 0 ≤ h0 ∧ h0 ≤ 255) (b1 : 0 ≤ h1 ∧ h1 ≤ 255) : Calls Try.prog 18 #[.pointer (some ⟨b, 0, none⟩)] w fun e w' => e = .returned (.int .i64 (h0 * 256 + h1)) ∧ Ext w w' := by
  have c1 := h.cell 1 rfl
  have c2 := h.cell 2 rfl
  go_enter Try.func18, Try.ntmps18
  have e := hide (or_head h0 h1 b0 b1)
  go_wp2_with fail
  go_quiet (fail)
  simp only [e.out]
  go_wp2_with fail
  go_returns
  exact ⟨rfl, (Ext.refl w).drewN _⟩
set_option maxHeartbeats 1000000 in
theorem missing_lt (w : World) (b : Nat) (k h0 h1 : Int) (body : Value) (h : Cu w b k h0 h1 body) (hk : 0 ≤ k ∧ k < 2) : Calls Try.prog 15 #[.pointer (some ⟨b, 0, none⟩)] w fun e w' => e = .returned (.int .i64 (2 - k)) ∧ Ext w w' := by
  have c0 := h.cell 0 rfl
  go_enter Try.func15, Try.ntmps15
  go_wp2_with fail
  go_returns
  exact ⟨rfl, Ext.refl w⟩
set_option maxHeartbeats 1000000 in
theorem missing_ge (w : World) (b : Nat) (k h0 h1 : Int) (body : Value) (h : Cu w b k h0 h1 body) (b0 : 0 ≤ h0 ∧ h0 ≤ 255) (b1 : 0 ≤ h1 ∧ h1 ≤ 255) (hk : 2 ≤ k ∧ k ≤ 2 + (h0 * 256 + h1)) : Calls Try.prog 15 #[.pointer (some ⟨b, 0, none⟩)] w fun e w' => e = .returned (.int .i64 (2 + (h0 * 256 + h1) - k)) ∧ Ext w w' := by
  have c0 := h.cell 0 rfl
  have hL := hide (fun g : GW w => length_c g.val b k h0 h1 body (h.ext g.grown) b0 b1)
  have cg : ∀ g : GW w, g.val.cell? ⟨b, 0, none⟩ = some (.int .i64 k) := fun g => (h.ext g.grown).cell 0 rfl
  obtain ⟨n, hn⟩ : ∃ n, n = h0 * 256 + h1 := ⟨_, rfl⟩
  rw [← hn] at hL hk ⊢
  have hn2 : 0 ≤ n ∧ n ≤ 65535 := by omega
  clear hn b0 b1
  go_enter Try.func15, Try.ntmps15
  go_wp2_with fail
  refine wp_region_gw (by kernel_rfl) (by kernel_rfl) ?_
  repeat (go_big_quiet_step ((go_at_call 18; exact quiet_gw (hL.out _))))
  refine wpQuiet_nil ?_
  intro g
  go_wp2_with fail
  go_returns
  exact ⟨rfl, g.grown⟩
set_option maxHeartbeats 2000000 in
theorem cut_c (w : World) (b : Nat) (k h0 h1 : Int) (A : Option Addr) (n c : Nat) (h : Cu w b k h0 h1 (.slice A n c)) (b0 : 0 ≤ h0 ∧ h0 ≤ 255) (b1 : 0 ≤ h1 ∧ h1 ≤ 255) : Calls Try.prog 17 #[.pointer (some ⟨b, 0, none⟩)] w fun e w' => e = .returned (.agg #[.slice A n c, .int .i64 (if 4096 < h0 * 256 + h1 then 6 else 0)]) ∧ Cu w' b 0 0 0 (.slice none 0 0) ∧ Fr [b] w w' := by
  have c0 := h.cell 0 rfl
  have c1 := h.cell 1 rfl
  have c2 := h.cell 2 rfl
  have c3 := h.cell 3 rfl
  have z0 := h.free 0
  have z1 := h.free 1
  have z2 := h.free 2
  have z3 := h.free 3
  have hlt := h.lt
  haveI : In b w := ⟨hlt⟩
  have hne0 : b ≠ w.heap.size := by omega
  have hne1 : b ≠ w.heap.size + 1 := by omega
  have hL := hide (length_c ((w.alloc (.cells #[.slice none 0 0, .int .i64 0] 41)).alloc (.cells #[.slice A n c, .int .i64 0] 41)) b k h0 h1 (.slice A n c) ((h.alloc _).alloc _) b0 b1)
  obtain ⟨N, hn'⟩ : ∃ N, N = h0 * 256 + h1 := ⟨_, rfl⟩
  rw [← hn'] at hL ⊢
  clear hn' b0 b1
  by_cases hn : 4096 < N
  · rw [if_pos hn]
    go_enter Try.func17, Try.ntmps17
    go_wp2_with (go_at_call 18; refine seq_gw hL.out ?_; intro g)
    go_returns
    refine ⟨by first | rfl | simp, ?_, ?_⟩
    · have hB := ((h.alloc (.cells #[.slice none 0 0, .int .i64 0] 41)).alloc (.cells #[.slice A n c, .int .i64 0] 41)).ext g.grown
      have h1 : Ob (g.val.setCell ⟨w.heap.size + 1, 1, none⟩ (.int .i64 6)) b 46 _ := hB.far _ _ hne1
      have h2 := (((h1.set 0 (.int .i64 0)).set 1 (.int .u8 0)).set 2 (.int .u8 0)).set 3 (.slice none 0 0)
      unfold Cu
      refine Ob.far (Ob.far ?_ _ _ hne0) _ _ hne0
      exact h2
    · have hF : Fr [b] w g.val := Fr.of_ext ((((Ext.refl w).alloc _).alloc _).trans g.grown)
      have m : b ∈ [b] := by simp
      have k0 : w.heap.size ≤ w.heap.size := Nat.le_refl _
      have k1 : w.heap.size ≤ w.heap.size + 1 := Nat.le_succ _
      repeat (first | with_reducible exact hF | with_reducible refine Fr.setCell ?_ _ _ (.inl m) | with_reducible refine Fr.setCell ?_ _ _ (.inr k0) | with_reducible refine Fr.setCell ?_ _ _ (.inr k1))
  · rw [if_neg hn]
    replace hn : N ≤ 4096 := by omega
    go_enter Try.func17, Try.ntmps17
    go_wp2_with (go_at_call 18; refine seq_gw hL.out ?_; intro g)
    go_returns
    refine ⟨by first | rfl | simp, ?_, ?_⟩
    · have hB := ((h.alloc (.cells #[.slice none 0 0, .int .i64 0] 41)).alloc (.cells #[.slice A n c, .int .i64 0] 41)).ext g.grown
      have h2 := (((hB.set 0 (.int .i64 0)).set 1 (.int .u8 0)).set 2 (.int .u8 0)).set 3 (.slice none 0 0)
      unfold Cu
      refine Ob.far (Ob.far ?_ _ _ hne0) _ _ hne0
      exact h2
    · have hF : Fr [b] w g.val := Fr.of_ext ((((Ext.refl w).alloc _).alloc _).trans g.grown)
      have m : b ∈ [b] := by simp
      have k0 : w.heap.size ≤ w.heap.size := Nat.le_refl _
      have k1 : w.heap.size ≤ w.heap.size + 1 := Nat.le_succ _
      repeat (first | with_reducible exact hF | with_reducible refine Fr.setCell ?_ _ _ (.inl m) | with_reducible refine Fr.setCell ?_ _ _ (.inr k0) | with_reducible refine Fr.setCell ?_ _ _ (.inr k1))
end Go.Proofs.Ytgjdgejljkhnlaa
