/-
  A helper of ours: no claim of its own. Layer 5 (value): every value written, by the code.
-/
import Derived.Test.YthidjngipkelcaaDoorValE
import Derived.Test.YthidjngipkelcaaDoorNumB
import Derived.Lib.ItoaLen
set_option linter.unusedVariables false
set_option linter.unusedSimpArgs false
namespace Go.Proofs.YthidjngipkelcaaDoor
open Go.RowKit
attribute [local go_sem] GW.cell GW.frozen In.eq_true In.le_true In.ne In.ne' In.ne_add In.ne_add' In.lt_add Upto.le_true Upto.le_add Upto.lt_add
theorem size_lst (s : ByteArray) : s.data.toList.length = s.size := by rw [Array.length_toList]; rfl
def showV (a : Vl) : List UInt8 := if may a then (if a.1 = 1 then Lib.itoa a.2.1 else showB a.2.2.data.toList) else []
theorem showV_num {n : Int} {s : ByteArray} (h : s.size = 0) : showV (1, n, s) = Lib.itoa n := by
  unfold showV may; simp [may_num h]
theorem showV_text {s : ByteArray} (h : s.size ≤ 64) : showV (2, 0, s) = showB s.data.toList := by
  unfold showV may; simp only; rw [may_text h, if_pos rfl, if_neg (by decide)]
theorem showV_no {k n : Int} {s : ByteArray} (h : mayB k n s = false) : showV (k, n, s) = [] := by
  unfold showV may; simp only; rw [h, if_neg (by decide)]
set_option maxHeartbeats 1000000 in
set_option maxRecDepth 100000 in
theorem numShow_c (n : Int) (hn : -9223372036854775808 ≤ n ∧ n ≤ 9223372036854775807) (w : World) (ht : Tab w) : Calls Tryd.prog 120 #[.int .i64 n] w fun e w' => e = .returned (.string ⟨(Lib.itoa n).toArray⟩) ∧ Ext w w' := by
  have hc := hide (fun w h => show_c n hn w h)
  clear hn
  replace ht := hide ht
  go_enter Tryd.func120, Tryd.ntmps120
  go_wp2_with (go_at_call 23; (with_reducible refine seq_gw (hc.out _ ht.out) ?_); intro g)
  go_returns
  exact ⟨rfl, g.grown⟩
set_option maxHeartbeats 1000000 in
set_option maxRecDepth 100000 in
theorem vshow_c (k n : Int) (s : ByteArray) (hn : -9223372036854775808 ≤ n ∧ n ≤ 9223372036854775807) (w : World) (ht : Tab w) : Calls Tryd.prog 51 #[val k n s] w fun e w' => e = .returned (.string ⟨(showV (k, n, s)).toArray⟩) ∧ Ext w w' := by
  rcases may_cases (k := k) (n := n) (s := s) with ⟨rfl, h⟩ | ⟨rfl, rfl, h⟩ | ⟨hm, h⟩
  · rw [showV_num h]
    have h1 := hide (fun w => inner_num n s h w)
    have hc := hide (fun w h => numShow_c n hn w h)
    replace ht := hide ht
    clear h hn
    go_enter Tryd.func51, Tryd.ntmps51
    go_wp2_with (first | (go_at_call 67; (with_reducible refine seq_gw (h1.out _) ?_); intro g) | (go_at_call 120; (with_reducible refine seq_gw' (hc.out _ (ht.out.ext (((Ext.refl w).alloc _).trans g.grown))) ?_); intro g2))
    go_returns
    exact ⟨rfl, ((Ext.refl w).alloc _).trans g2.grown⟩
  · rw [showV_text h]
    exact showText_c s h w
  · rw [showV_no hm]
    have h1 := hide (fun w => inner_none k n s h w)
    clear h hn hm
    go_enter Tryd.func51, Tryd.ntmps51
    go_wp2_with (go_at_call 67; (with_reducible refine seq_gw (h1.out _) ?_); intro g)
    go_returns
    exact ⟨rfl, ((Ext.refl w).alloc _).trans g.grown⟩
theorem showB_len (t : List UInt8) : (showB t).length = (t.flatMap esc).length + 2 := by unfold showB; simp
theorem showB_le {t : List UInt8} (h : t.length ≤ 64) : (showB t).length ≤ 194 := by
  rw [showB_len]
  have : ∀ l : List UInt8, (l.flatMap esc).length ≤ 3 * l.length := by
    intro l
    induction l with
    | nil => simp
    | cons c r ih => rw [List.flatMap_cons, List.length_append, List.length_cons]; have := esc_len c; omega
  have := this t
  omega
theorem showV_len {k n : Int} {s : ByteArray} (hn : -9223372036854775808 ≤ n ∧ n ≤ 9223372036854775807) : (showV (k, n, s)).length ≤ 200 := by
  rcases may_cases (k := k) (n := n) (s := s) with ⟨rfl, h⟩ | ⟨rfl, rfl, h⟩ | ⟨hm, h⟩
  · rw [showV_num h]; have := Lib.itoa_length_le n hn.1 hn.2; omega
  · rw [showV_text h]; have := showB_le (t := s.data.toList) (by rw [size_lst]; exact h); omega
  · rw [showV_no hm]; simp
end Go.Proofs.YthidjngipkelcaaDoor
