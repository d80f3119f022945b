/-
  A helper of ours: no claim of its own. Layer 4 (frame): what a frame is, on both sides.
-/
import Derived.Test.YtgjdgejljkhnlaaBinA
set_option linter.unusedVariables false
set_option linter.unusedSimpArgs false
namespace Go.Proofs.Ytgjdgejljkhnlaa
open Go.RowKit
attribute [local go_sem] GW.cell GW.frozen In.eq_true In.le_true In.ne In.ne' In.ne_add In.ne_add' In.lt_add Upto.le_true Upto.le_add Upto.lt_add
/-- A frame's head. -/
def fhead (n : Nat) : List UInt8 := [UInt8.ofNat (n / 256), UInt8.ofNat (n % 256)]
theorem bs_head (n : Nat) (h : n < 65536) (x y : Int) (hx : x = (n / 256 : Nat)) (hy : y = (n % 256 : Nat)) : [Value.int .u8 x, Value.int .u8 y] = bs (fhead n) := by
  simp only [bs, fhead, List.map_cons, List.map_nil]
  rw [u8_of _ (by omega), u8_of _ (by omega), hx, hy]
theorem own_two (w : World) (n : Nat) (h : n < 65536) : (w.alloc (.cells #[.int .u8 ((n : Int) / 256), .int .u8 ((n : Int) % 256)] 5)).ownsRow w.heap.size 5 1 (.slice (some ⟨w.heap.size, 0, none⟩) 2 2) 2 (bs (fhead n)) := by
  have := World.ownsRow_lit (base := w.heap.size) (e := 5) (size := 1) w #[.int .u8 ((n : Int) / 256), .int .u8 ((n : Int) % 256)] 2 (Nat.le_refl _) (by decide) rfl
  rw [← bs_head n h ((n : Int) / 256) ((n : Int) % 256) (by omega) (by omega)]
  exact this
theorem wrap_long (S : List Nat) (l : List UInt8) (hl : 4096 < l.length) (v : Value) (w : World) (h : By w S v l) : Calls Try.prog 7 #[v] w fun e w' => e = .returned (.tuple #[.slice none 0 0, .int .i64 6]) ∧ w' = w := by
  obtain ⟨A, cap, rfl, h1, h2, h3, h4⟩ := h
  replace hl : (4096 : Int) < (l.length : Int) := by omega
  clear h4 h3
  go_enter Try.func7, Try.ntmps7
  go_wp2_with fail
  go_returns
  exact ⟨rfl, rfl⟩
set_option maxHeartbeats 1000000 in
theorem wrap_c (S : List Nat) (l : List UInt8) (hl : l.length ≤ 4096) (v : Value) (w : World) (h : By w S v l) : Calls Try.prog 7 #[v] w fun e w' => ∃ v', e = .returned (.tuple #[v', .int .i64 0]) ∧ OwnB w' w.heap.size v' (fhead l.length ++ l) ∧ Ext w w' := by
  have hs := hide h
  obtain ⟨A, cap, rfl, h1, h2, h3, h4⟩ := h
  replace hl : (l.length : Int) ≤ (4096 : Int) := by omega
  clear h4 h3
  go_enter Try.func7, Try.ntmps7
  have hlit := hide (own_two w l.length (by omega))
  have hsr := hide (Sl.alloc hs.out (.cells #[Value.int .u8 ((l.length : Int) / 256), Value.int .u8 ((l.length : Int) % 256)] 5))
  go_wp2_with (at_builtin; refine wpl_app tBytes rfl (.tmp 14) (.tmp 15) rfl rfl hlit.out rfl (src_sl Try.underlying22 hsr.out (bs_one _) (by omega)) (by unfold maxLen; omega) (by omega) (by simp) ?_; intro v' w1 ho hg hd)
  go_returns
  refine ⟨_, rfl, ?_, ext_grown ((Ext.refl w).alloc _) hg fun k hk => (hlit.out.lt k hk).1⟩
  unfold OwnB
  rw [List.length_append, bs_append, show (fhead l.length).length = 2 from rfl]
  exact ho
set_option maxHeartbeats 1000000 in
theorem refWrap_c (S : List Nat) (l : List UInt8) (hl : l.length ≤ 4096) (v : Value) (w : World) (h : By w S v l) : Calls Try.prog 9 #[v] w fun e w' => ∃ v', e = .returned v' ∧ OwnB w' w.heap.size v' (fhead l.length ++ l) ∧ Ext w w' := by
  have hs := hide h
  obtain ⟨A, cap, rfl, h1, h2, h3, h4⟩ := h
  replace hl : (l.length : Int) ≤ (4096 : Int) := by omega
  clear h4 h3
  go_enter Try.func9, Try.ntmps9
  have hlit := hide (own_two w l.length (by omega))
  have hsr := hide (Sl.alloc hs.out (.cells #[Value.int .u8 ((l.length : Int) / 256), Value.int .u8 ((l.length : Int) % 256)] 5))
  go_wp2_with (at_builtin; refine wpl_app tBytes rfl (.tmp 11) (.tmp 12) rfl rfl hlit.out rfl (src_sl Try.underlying22 hsr.out (bs_one _) (by omega)) (by unfold maxLen; omega) (by omega) (by simp) ?_; intro v' w1 ho hg hd)
  go_returns
  refine ⟨_, rfl, ?_, ext_grown ((Ext.refl w).alloc _) hg fun k hk => (hlit.out.lt k hk).1⟩
  unfold OwnB
  rw [List.length_append, bs_append, show (fhead l.length).length = 2 from rfl]
  exact ho
end Go.Proofs.Ytgjdgejljkhnlaa
