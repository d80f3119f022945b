/-
  A helper of ours: no claim of its own. Layer 5 (value): how a value stands to another, on both sides.
-/
import Derived.Test.YtjdbjnpomndfjaaRowA
set_option linter.unusedVariables false
set_option linter.unusedSimpArgs false
namespace Go.Proofs.Ytjdbjnpomndfjaa
open Go.RowKit
attribute [local go_sem] GW.cell GW.frozen In.eq_true In.le_true In.ne In.ne' In.ne_add In.ne_add' In.lt_add Upto.le_true Upto.le_add Upto.lt_add
theorem nanN_c (n : Int) (w : World) : Calls Try.prog 177 #[.int .i64 n] w fun e w' => e = .returned (.bool false) ∧ Ext w w' := by
  go_enter Try.func177, Try.ntmps177
  go_wp2_with fail
  go_returns
  exact ⟨rfl, Ext.refl w⟩
theorem nanT_c (s : ByteArray) (w : World) : Calls Try.prog 182 #[.string s] w fun e w' => e = .returned (.bool false) ∧ Ext w w' := by
  go_enter Try.func182, Try.ntmps182
  go_wp2_with fail
  go_returns
  exact ⟨rfl, Ext.refl w⟩
set_option maxHeartbeats 1000000 in
theorem cmpNum_c (n m : Int) (w : World) : Calls Try.prog 176 #[.int .i64 n, .int .i64 m] w fun e w' => e = .returned (.int .i64 (cmpN n m)) ∧ Ext w w' := by
  obtain ⟨r, hr⟩ : ∃ r, r = cmpN n m := ⟨_, rfl⟩
  rw [← hr]
  unfold cmpN at hr
  by_cases h1 : n < m
  · rw [if_pos h1] at hr
    subst hr
    go_enter Try.func176, Try.ntmps176
    go_wp2_with (go_at_call 177; (first | (with_reducible refine seq_gw' (nanN_c _ _) ?_) | (with_reducible refine seq_gw (nanN_c _ _) ?_)); intro g)
    go_returns
    exact ⟨rfl, g.grown⟩
  · by_cases h2 : m < n
    · rw [if_neg h1, if_pos h2] at hr
      subst hr
      go_enter Try.func176, Try.ntmps176
      go_wp2_with (go_at_call 177; (first | (with_reducible refine seq_gw' (nanN_c _ _) ?_) | (with_reducible refine seq_gw (nanN_c _ _) ?_)); intro g)
      go_returns
      exact ⟨rfl, g.grown⟩
    · rw [if_neg h1, if_neg h2] at hr
      subst hr
      have e : n = m := by omega
      subst e
      go_enter Try.func176, Try.ntmps176
      go_wp2_with (go_at_call 177; (first | (with_reducible refine seq_gw' (nanN_c _ _) ?_) | (with_reducible refine seq_gw (nanN_c _ _) ?_)); intro g)
      go_returns
      exact ⟨rfl, g.grown⟩
set_option maxHeartbeats 1000000 in
theorem cmpText_c (s t : ByteArray) (w : World) : Calls Try.prog 181 #[.string s, .string t] w fun e w' => e = .returned (.int .i64 (cmpL s.data.toList t.data.toList)) ∧ Ext w w' := by
  have key : ∀ r, cmpL s.data.toList t.data.toList = r → Calls Try.prog 181 #[.string s, .string t] w fun e w' => e = .returned (.int .i64 r) ∧ Ext w w' := by
    intro r hr
    have hlt := less_iff s.data.toList t.data.toList
    rw [hr, ← Lib.toList_data, ← Lib.toList_data] at hlt
    have heq : (s.toList == t.toList) = decide (r = 0) := by
      have := cmpL_zero s.data.toList t.data.toList
      rw [hr] at this
      rw [Lib.toList_data, Lib.toList_data]
      by_cases h : r = 0
      · simp [h, this.1 h]
      · simp [h]; intro e; exact h (this.2 (by rw [e]))
    rcases cmpL_range s.data.toList t.data.toList with e | e | e <;> rw [hr] at e <;> subst e <;> clear hr
    · replace hlt : Op.bytesLess s.toList t.toList = true := hlt
      clear heq
      go_enter Try.func181, Try.ntmps181
      go_wp2_with (go_at_call 182; (first | (with_reducible refine seq_gw' (nanT_c _ _) ?_) | (with_reducible refine seq_gw (nanT_c _ _) ?_)); intro g)
      go_returns
      exact ⟨rfl, g.grown⟩
    · replace hlt : Op.bytesLess s.toList t.toList = false := hlt
      replace heq : (s.toList == t.toList) = true := heq
      have hgt : ∀ w, (binOp .gtr 179 (.string s) (.string t)).run Try.prog w = .ok (.bool false) w := fun w => by simp [binOp, Op.stringOp, hlt, heq]
      go_enter Try.func181, Try.ntmps181
      go_wp2_with (go_at_call 182; (first | (with_reducible refine seq_gw' (nanT_c _ _) ?_) | (with_reducible refine seq_gw (nanT_c _ _) ?_)); intro g)
      go_returns
      exact ⟨rfl, g.grown⟩
    · replace hlt : Op.bytesLess s.toList t.toList = false := hlt
      replace heq : (s.toList == t.toList) = false := heq
      have hgt : ∀ w, (binOp .gtr 179 (.string s) (.string t)).run Try.prog w = .ok (.bool true) w := fun w => by simp [binOp, Op.stringOp, hlt, heq]
      go_enter Try.func181, Try.ntmps181
      go_wp2_with (go_at_call 182; (first | (with_reducible refine seq_gw' (nanT_c _ _) ?_) | (with_reducible refine seq_gw (nanT_c _ _) ?_)); intro g)
      go_returns
      exact ⟨rfl, g.grown⟩
  exact key _ rfl
theorem as_nn (m : Int) (w : World) : (Instr.typeAssert (.iface 178 (.int .i64 m)) 171 178 true).run Try.prog w = .ok (.tuple #[.int .i64 m, .bool true]) w := by kernel_rfl
theorem as_nt (s : ByteArray) (w : World) : (Instr.typeAssert (.iface 179 (.string s)) 171 178 true).run Try.prog w = .ok (.tuple #[.int .i64 0, .bool false]) w := by kernel_rfl
theorem as_tt (s : ByteArray) (w : World) : (Instr.typeAssert (.iface 179 (.string s)) 171 179 true).run Try.prog w = .ok (.tuple #[.string s, .bool true]) w := by kernel_rfl
theorem as_tn (m : Int) (w : World) : (Instr.typeAssert (.iface 178 (.int .i64 m)) 171 179 true).run Try.prog w = .ok (.tuple #[.string ⟨#[]⟩, .bool false]) w := by kernel_rfl
theorem as_n (m : Int) (w : World) : (Instr.typeAssert (.iface 178 (.int .i64 m)) 171 178 false).run Try.prog w = .ok (.int .i64 m) w := by kernel_rfl
theorem as_t (s : ByteArray) (w : World) : (Instr.typeAssert (.iface 179 (.string s)) 171 179 false).run Try.prog w = .ok (.string s) w := by kernel_rfl
set_option maxHeartbeats 1000000 in
set_option maxRecDepth 100000 in
theorem numNum_c (n m : Int) (w : World) : Calls Try.prog 174 #[.int .i64 n, .iface 178 (.int .i64 m)] w fun e w' => e = .returned (.int .i64 (cmpN n m)) ∧ Ext w w' := by
  have hc := hide (fun w => cmpNum_c n m w)
  generalize cmpN n m = r at hc
  have t1 := as_nn m
  have t2 := as_n m
  go_enter Try.func174, Try.ntmps174
  go_wp2_with (go_at_call 176; refine seq_gw (hc.out _) ?_; intro g)
  go_returns
  exact ⟨rfl, g.grown⟩
set_option maxHeartbeats 1000000 in
set_option maxRecDepth 100000 in
theorem numText_c (n : Int) (t : ByteArray) (w : World) : Calls Try.prog 174 #[.int .i64 n, .iface 179 (.string t)] w fun e w' => e = .returned (.int .i64 (-1)) ∧ Ext w w' := by
  have t1 := as_nt t
  go_enter Try.func174, Try.ntmps174
  go_wp2_with fail
  go_returns
  exact ⟨rfl, Ext.refl w⟩
set_option maxHeartbeats 1000000 in
set_option maxRecDepth 100000 in
theorem textText_c (s t : ByteArray) (w : World) : Calls Try.prog 179 #[.string s, .iface 179 (.string t)] w fun e w' => e = .returned (.int .i64 (cmpL s.data.toList t.data.toList)) ∧ Ext w w' := by
  have hc := hide (fun w => cmpText_c s t w)
  generalize cmpL s.data.toList t.data.toList = r at hc
  have t1 := as_tt t
  have t2 := as_t t
  go_enter Try.func179, Try.ntmps179
  go_wp2_with (go_at_call 181; refine seq_gw (hc.out _) ?_; intro g)
  go_returns
  exact ⟨rfl, g.grown⟩
set_option maxHeartbeats 1000000 in
set_option maxRecDepth 100000 in
theorem textNum_c (s : ByteArray) (m : Int) (w : World) : Calls Try.prog 179 #[.string s, .iface 178 (.int .i64 m)] w fun e w' => e = .returned (.int .i64 1) ∧ Ext w w' := by
  have t1 := as_tn m
  go_enter Try.func179, Try.ntmps179
  go_wp2_with fail
  go_returns
  exact ⟨rfl, Ext.refl w⟩
set_option maxHeartbeats 1000000 in
set_option maxRecDepth 100000 in
theorem cmpNN_c (n m : Int) (s t : ByteArray) (hs : s.size = 0) (ht : t.size = 0) (w : World) : Calls Try.prog 148 #[val 1 n s, val 1 m t] w fun e w' => e = .returned (.int .i64 (cmpN n m)) ∧ Ext w w' := by
  have h1 := hide (fun w => inner_num n s hs w)
  have h2 := hide (fun w => inner_num m t ht w)
  have hc := hide (fun w => numNum_c n m w)
  obtain ⟨r, hr⟩ : ∃ r, r = cmpN n m := ⟨_, rfl⟩
  rw [← hr] at hc ⊢
  clear hr
  clear hs ht
  go_enter Try.func148, Try.ntmps148
  go_wp2_with (first | (go_at_call 156; (first | (with_reducible refine seq_gw' (h2.out _) ?_) | (with_reducible refine seq_gw (h1.out _) ?_)); intro g) | (go_at_call 174; with_reducible refine seq_gw' (hc.out _) ?_; intro g))
  go_returns
  exact ⟨rfl, (((Ext.refl w).alloc _).alloc _).trans g.grown⟩
set_option maxHeartbeats 1000000 in
set_option maxRecDepth 100000 in
theorem cmpNT_c (n : Int) (s t : ByteArray) (hs : s.size = 0) (ht : t.size ≤ 64) (w : World) : Calls Try.prog 148 #[val 1 n s, val 2 0 t] w fun e w' => e = .returned (.int .i64 (-1)) ∧ Ext w w' := by
  have h1 := hide (fun w => inner_num n s hs w)
  have h2 := hide (fun w => inner_text t ht w)
  have hc := hide (fun w => numText_c n t w)
  clear hs ht
  go_enter Try.func148, Try.ntmps148
  go_wp2_with (first | (go_at_call 156; (first | (with_reducible refine seq_gw' (h2.out _) ?_) | (with_reducible refine seq_gw (h1.out _) ?_)); intro g) | (go_at_call 174; with_reducible refine seq_gw' (hc.out _) ?_; intro g))
  go_returns
  exact ⟨rfl, (((Ext.refl w).alloc _).alloc _).trans g.grown⟩
set_option maxHeartbeats 1000000 in
set_option maxRecDepth 100000 in
theorem cmpTN_c (m : Int) (s t : ByteArray) (hs : s.size ≤ 64) (ht : t.size = 0) (w : World) : Calls Try.prog 148 #[val 2 0 s, val 1 m t] w fun e w' => e = .returned (.int .i64 (1)) ∧ Ext w w' := by
  have h1 := hide (fun w => inner_text s hs w)
  have h2 := hide (fun w => inner_num m t ht w)
  have hc := hide (fun w => textNum_c s m w)
  clear hs ht
  go_enter Try.func148, Try.ntmps148
  go_wp2_with (first | (go_at_call 156; (first | (with_reducible refine seq_gw' (h2.out _) ?_) | (with_reducible refine seq_gw (h1.out _) ?_)); intro g) | (go_at_call 179; with_reducible refine seq_gw' (hc.out _) ?_; intro g))
  go_returns
  exact ⟨rfl, (((Ext.refl w).alloc _).alloc _).trans g.grown⟩
set_option maxHeartbeats 1000000 in
set_option maxRecDepth 100000 in
theorem cmpTT_c (s t : ByteArray) (hs : s.size ≤ 64) (ht : t.size ≤ 64) (w : World) : Calls Try.prog 148 #[val 2 0 s, val 2 0 t] w fun e w' => e = .returned (.int .i64 (cmpL s.data.toList t.data.toList)) ∧ Ext w w' := by
  have h1 := hide (fun w => inner_text s hs w)
  have h2 := hide (fun w => inner_text t ht w)
  have hc := hide (fun w => textText_c s t w)
  obtain ⟨r, hr⟩ : ∃ r, r = cmpL s.data.toList t.data.toList := ⟨_, rfl⟩
  rw [← hr] at hc ⊢
  clear hr hs ht
  go_enter Try.func148, Try.ntmps148
  go_wp2_with (first | (go_at_call 156; (first | (with_reducible refine seq_gw' (h2.out _) ?_) | (with_reducible refine seq_gw (h1.out _) ?_)); intro g) | (go_at_call 179; with_reducible refine seq_gw' (hc.out _) ?_; intro g))
  go_returns
  exact ⟨rfl, (((Ext.refl w).alloc _).alloc _).trans g.grown⟩
theorem inner_some {k n : Int} {s : ByteArray} (h : mayB k n s = true) : ∃ v, ∀ w, Calls Try.prog 156 #[val k n s] w fun e w' => e = .returned (.tuple #[v, .bool true]) ∧ Ext w w' := by
  rcases may_cases (k := k) (n := n) (s := s) with ⟨rfl, h'⟩ | ⟨rfl, rfl, h'⟩ | ⟨hm, _⟩
  · exact ⟨_, fun w => inner_num n s h' w⟩
  · exact ⟨_, fun w => inner_text s h' w⟩
  · rw [h] at hm; cases hm
theorem inner_no {k n : Int} {s : ByteArray} (h : mayB k n s = false) (w : World) : Calls Try.prog 156 #[val k n s] w fun e w' => e = .returned (.tuple #[.nilIface, .bool false]) ∧ Ext w w' := by
  rcases may_cases (k := k) (n := n) (s := s) with ⟨rfl, h'⟩ | ⟨rfl, rfl, h'⟩ | ⟨_, h'⟩
  · rw [may_num h'] at h; cases h
  · rw [may_text h'] at h; cases h
  · exact inner_none k n s h' w
set_option maxHeartbeats 1000000 in
set_option maxRecDepth 100000 in
theorem cmpNo1_c (k n k' m : Int) (s t : ByteArray) (h : mayB k n s = false) (w : World) : Calls Try.prog 148 #[val k n s, val k' m t] w fun e w' => e = .returned (.int .i64 0) ∧ Ext w w' := by
  have h1 := hide (fun w => inner_no h w)
  clear h
  go_enter Try.func148, Try.ntmps148
  go_wp2_with (first | (go_at_call 156; with_reducible refine seq_gw (h1.out _) ?_; intro g))
  go_returns
  exact ⟨rfl, (((Ext.refl w).alloc _).alloc _).trans g.grown⟩
set_option maxHeartbeats 1000000 in
set_option maxRecDepth 100000 in
theorem cmpNo2_c (k n k' m : Int) (s t : ByteArray) (h : mayB k n s = true) (h' : mayB k' m t = false) (w : World) : Calls Try.prog 148 #[val k n s, val k' m t] w fun e w' => e = .returned (.int .i64 0) ∧ Ext w w' := by
  obtain ⟨v, h1⟩ := inner_some h
  replace h1 := hide h1
  have h2 := hide (fun w => inner_no h' w)
  clear h h'
  go_enter Try.func148, Try.ntmps148
  go_wp2_with (first | (go_at_call 156; (first | (with_reducible refine seq_gw' (h2.out _) ?_) | (with_reducible refine seq_gw (h1.out _) ?_)); intro g))
  go_returns
  exact ⟨rfl, (((Ext.refl w).alloc _).alloc _).trans g.grown⟩
/-- How a value stands to another. -/
theorem compare_c (k n k' m : Int) (s t : ByteArray) (w : World) : Calls Try.prog 148 #[val k n s, val k' m t] w fun e w' => e = .returned (.int .i64 (cmpV (k, n, s) (k', m, t))) ∧ Ext w w' := by
  unfold cmpV may
  simp only
  rcases may_cases (k := k) (n := n) (s := s) with ⟨rfl, h⟩ | ⟨rfl, rfl, h⟩ | ⟨hm, h⟩ <;> rcases may_cases (k := k') (n := m) (s := t) with ⟨rfl, h'⟩ | ⟨rfl, rfl, h'⟩ | ⟨hm', h'⟩
  · rw [may_num h, may_num h']; exact cmpNN_c n m s t h h' w
  · rw [may_num h, may_text h']; exact cmpNT_c n s t h h' w
  · rw [may_num h, hm']; exact cmpNo2_c _ _ _ _ _ _ (may_num h) hm' w
  · rw [may_text h, may_num h']; exact cmpTN_c m s t h h' w
  · rw [may_text h, may_text h']; exact cmpTT_c s t h h' w
  · rw [may_text h, hm']; exact cmpNo2_c _ _ _ _ _ _ (may_text h) hm' w
  · rw [hm]; exact cmpNo1_c _ _ _ _ _ _ hm w
  · rw [hm]; exact cmpNo1_c _ _ _ _ _ _ hm w
  · rw [hm]; exact cmpNo1_c _ _ _ _ _ _ hm w
end Go.Proofs.Ytjdbjnpomndfjaa
