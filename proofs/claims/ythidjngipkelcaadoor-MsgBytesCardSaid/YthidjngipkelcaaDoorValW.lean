/-
  A helper of ours: no claim of its own. Layer 5 (value): a value's bytes, on both sides.
-/
import Derived.Test.YthidjngipkelcaaDoorValA
import Derived.Test.YthidjngipkelcaaDoorBinA
import Derived.Test.YthidjngipkelcaaDoorBinP
set_option linter.unusedVariables false
set_option linter.unusedSimpArgs false
namespace Go.Proofs.YthidjngipkelcaaDoor
open Go.RowKit
attribute [local go_sem] GW.cell GW.frozen In.eq_true In.le_true In.ne In.ne' In.ne_add In.ne_add' In.lt_add Upto.le_true Upto.le_add Upto.lt_add
/-- A value's bytes. -/
def valB (a : Vl) : List UInt8 := if may a then (if a.1 = 1 then 1 :: intB a.2.1 else 2 :: textB a.2.2.data.toList) else []
theorem intB_len {n : Int} (h : -9223372036854775808 ≤ n ∧ n ≤ 9223372036854775807) : (intB n).length ≤ 10 := grp_ten (by have := zz_in h; omega)
theorem textB_len {s : ByteArray} (h : s.size ≤ 64) : (textB s.data.toList).length ≤ 74 := by
  unfold textB
  rw [List.length_append, size_list]
  have := grp_ten (n := s.size) (by omega); omega
set_option maxHeartbeats 1000000 in
set_option maxRecDepth 100000 in
theorem numBytes_c (n : Int) (h : -9223372036854775808 ≤ n ∧ n ≤ 9223372036854775807) (w : World) : Calls Tryd.prog 118 #[.int .i64 n] w fun e w' => ∃ v, e = .returned v ∧ OwnB w' w.heap.size v (1 :: intB n) ∧ Ext w w' := by
  have hl := intB_len h
  have hlit := hide (World.ownsRow_lit (base := w.heap.size) (e := 5) (size := 1) w #[.int .u8 1] 1 (Nat.le_refl _) (by decide) rfl)
  have hc := hide (fun w => int_c n h w)
  clear h
  go_enter Tryd.func118, Tryd.ntmps118
  go_wp2_with (first | (go_at_call 121; refine (hc.out _).mono ?_; rintro ee w1 ⟨v1, rfl, ho1, hx1⟩; have hz1 := hx1.size; simp only [World.size_alloc] at hz1; have hk1 := own_ext hlit.out hx1) | (at_builtin; (refine wpl_app tBytes rfl (.tmp 3) (.tmp 5) rfl rfl hk1 rfl (src_sl Tryd.underlying27 (Sl.own (S := []) ho1 (by simp)) (bs_one _) (by omega)) (by unfold maxLen; omega) (by omega) (by omega) ?_; intro v2 w2 hp2 hg2 _; replace hp2 := own_app (l := [1]) hp2; have he2 := ext_grown (((Ext.refl w).alloc _).trans hx1) hg2 (fun k hk => (hlit.out.lt k hk).1))))
  go_returns
  exact ⟨_, rfl, hp2, he2⟩
set_option maxHeartbeats 1000000 in
set_option maxRecDepth 100000 in
theorem textBytes_c (s : ByteArray) (hs : s.size ≤ 64) (w : World) : Calls Tryd.prog 123 #[.string s] w fun e w' => ∃ v, e = .returned v ∧ OwnB w' w.heap.size v (2 :: textB s.data.toList) ∧ Ext w w' := by
  have hl := textB_len hs
  have hlit := hide (World.ownsRow_lit (base := w.heap.size) (e := 5) (size := 1) w #[.int .u8 2] 1 (Nat.le_refl _) (by decide) rfl)
  have hc := hide (fun w => text_c s (by omega) w)
  clear hs
  go_enter Tryd.func123, Tryd.ntmps123
  go_wp2_with (first | (go_at_call 126; refine (hc.out _).mono ?_; rintro ee w1 ⟨v1, rfl, ho1, hx1⟩; have hz1 := hx1.size; simp only [World.size_alloc] at hz1; have hk1 := own_ext hlit.out hx1) | (at_builtin; (refine wpl_app tBytes rfl (.tmp 3) (.tmp 5) rfl rfl hk1 rfl (src_sl Tryd.underlying27 (Sl.own (S := []) ho1 (by simp)) (bs_one _) (by omega)) (by unfold maxLen; omega) (by omega) (by omega) ?_; intro v2 w2 hp2 hg2 _; replace hp2 := own_app (l := [2]) hp2; have he2 := ext_grown (((Ext.refl w).alloc _).trans hx1) hg2 (fun k hk => (hlit.out.lt k hk).1))))
  go_returns
  exact ⟨_, rfl, hp2, he2⟩
set_option maxHeartbeats 1000000 in
set_option maxRecDepth 100000 in
theorem vbytes_c (k n : Int) (s : ByteArray) (hn : -9223372036854775808 ≤ n ∧ n ≤ 9223372036854775807) (w : World) : Calls Tryd.prog 44 #[val k n s] w fun e w' => ∃ v, e = .returned v ∧ OwnB w' w.heap.size v (valB (k, n, s)) ∧ Ext w w' := by
  unfold valB may
  simp only
  rcases may_cases (k := k) (n := n) (s := s) with ⟨rfl, h⟩ | ⟨rfl, rfl, h⟩ | ⟨hm, h⟩
  · rw [may_num h, if_pos rfl, if_pos rfl]
    have h1 := hide (fun w => inner_num n s h w)
    have hc := hide (fun w => numBytes_c n hn w)
    clear h hn
    go_enter Tryd.func44, Tryd.ntmps44
    go_wp2_with (first | (go_at_call 67; with_reducible refine seq_gw (h1.out _) ?_; intro g) | (go_at_call 118; refine (hc.out _).mono ?_; rintro ee w1 ⟨v1, rfl, ho1, hx1⟩))
    go_returns
    have hz := GW.size g
    exact ⟨_, rfl, own_base ho1 (by simp only [World.size_alloc] at hz; omega), (((Ext.refl w).alloc _).trans g.grown).trans hx1⟩
  · rw [may_text h, if_pos rfl, if_neg (by decide)]
    have h1 := hide (fun w => inner_text s h w)
    have hc := hide (fun w => textBytes_c s h w)
    clear h hn
    go_enter Tryd.func44, Tryd.ntmps44
    go_wp2_with (first | (go_at_call 67; with_reducible refine seq_gw (h1.out _) ?_; intro g) | (go_at_call 123; refine (hc.out _).mono ?_; rintro ee w1 ⟨v1, rfl, ho1, hx1⟩))
    go_returns
    have hz := GW.size g
    exact ⟨_, rfl, own_base ho1 (by simp only [World.size_alloc] at hz; omega), (((Ext.refl w).alloc _).trans g.grown).trans hx1⟩
  · rw [hm, if_neg (by decide)]
    have h1 := hide (fun w => inner_none k n s h w)
    clear h hn
    go_enter Tryd.func44, Tryd.ntmps44
    go_wp2_with (go_at_call 67; with_reducible refine seq_gw (h1.out _) ?_; intro g)
    go_returns
    exact ⟨_, rfl, World.ownsRow_nil _ _ _ _, ((Ext.refl w).alloc _).trans g.grown⟩
set_option maxHeartbeats 1000000 in
set_option maxRecDepth 100000 in
theorem vrefBytes_c (k n : Int) (s : ByteArray) (hn : -9223372036854775808 ≤ n ∧ n ≤ 9223372036854775807) (w : World) : Calls Tryd.prog 49 #[val k n s] w fun e w' => ∃ v, e = .returned v ∧ OwnB w' w.heap.size v (valB (k, n, s)) ∧ Ext w w' := by
  unfold valB may
  simp only
  have hm1 := fun w => refMay_c k n s w
  rcases may_cases (k := k) (n := n) (s := s) with ⟨rfl, h⟩ | ⟨rfl, rfl, h⟩ | ⟨hm, h⟩
  · rw [may_num h] at hm1 ⊢
    rw [if_pos rfl, if_pos rfl]
    have hl := intB_len hn
    have hc := hide (fun w => refInt_c n hn w)
    replace hm1 := hide hm1
    clear h hn
    go_enter Tryd.func49, Tryd.ntmps49
    go_wp2_with (first | (go_at_call 68; with_reducible refine seq_gw (hm1.out _) ?_; intro g; have hz := GW.size g; simp only [World.size_alloc] at hz; have hlit := hide (World.ownsRow_lit (base := w.heap.size) (e := 5) (size := 1) g.val #[.int .u8 1] 1 (by omega) (by decide) rfl)) | (go_at_call 69; refine (hc.out _).mono ?_; rintro ee w1 ⟨v1, rfl, ho1, hx1⟩; have hz1 := hx1.size; simp only [World.size_alloc] at hz1; have hk1 := own_ext hlit.out hx1) | (at_builtin; (refine wpl_app tBytes rfl (.tmp 9) (.tmp 12) rfl rfl hk1 rfl (src_sl Tryd.underlying27 (Sl.own (S := []) ho1 (by simp)) (bs_one _) (by omega)) (by unfold maxLen; omega) (by omega) (by omega) ?_; intro v2 w2 hp2 hg2 _; replace hp2 := own_app (l := [1]) hp2; have he2 := ext_grown (((((Ext.refl w).alloc _).trans g.grown).alloc _).trans hx1) hg2 (fun k hk => (hlit.out.lt k hk).1))))
    go_returns
    exact ⟨_, rfl, hp2, he2⟩
  · rw [may_text h] at hm1 ⊢
    rw [if_pos rfl, if_neg (by decide)]
    have hl := textB_len h
    have hc := hide (fun w => refText_c s (by omega) w)
    replace hm1 := hide hm1
    clear h hn
    go_enter Tryd.func49, Tryd.ntmps49
    go_wp2_with (first | (go_at_call 68; with_reducible refine seq_gw (hm1.out _) ?_; intro g; have hz := GW.size g; simp only [World.size_alloc] at hz; have hlit := hide (World.ownsRow_lit (base := w.heap.size) (e := 5) (size := 1) g.val #[.int .u8 2] 1 (by omega) (by decide) rfl)) | (go_at_call 70; refine (hc.out _).mono ?_; rintro ee w1 ⟨v1, rfl, ho1, hx1⟩; have hz1 := hx1.size; simp only [World.size_alloc] at hz1; have hk1 := own_ext hlit.out hx1) | (at_builtin; (refine wpl_app tBytes rfl (.tmp 14) (.tmp 17) rfl rfl hk1 rfl (src_sl Tryd.underlying27 (Sl.own (S := []) ho1 (by simp)) (bs_one _) (by omega)) (by unfold maxLen; omega) (by omega) (by omega) ?_; intro v2 w2 hp2 hg2 _; replace hp2 := own_app (l := [2]) hp2; have he2 := ext_grown (((((Ext.refl w).alloc _).trans g.grown).alloc _).trans hx1) hg2 (fun k hk => (hlit.out.lt k hk).1))))
    go_returns
    exact ⟨_, rfl, hp2, he2⟩
  · rw [hm] at hm1 ⊢
    rw [if_neg (by decide)]
    replace hm1 := hide hm1
    clear h hn
    go_enter Tryd.func49, Tryd.ntmps49
    go_wp2_with (go_at_call 68; with_reducible refine seq_gw (hm1.out _) ?_; intro g)
    go_returns
    exact ⟨_, rfl, World.ownsRow_nil _ _ _ _, ((Ext.refl w).alloc _).trans g.grown⟩
end Go.Proofs.YthidjngipkelcaaDoor
