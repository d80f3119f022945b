/-
  A helper of ours: no claim of its own. Layer 5 (value): the document's order of values.
-/
import Derived.Test.YtljkneajdndgjaaGreatRowA
import Derived.Deep.LoopGhost
import Derived.BigQuiet
set_option linter.unusedVariables false
set_option linter.unusedSimpArgs false
namespace Go.Proofs.YtljkneajdndgjaaGreat
open Go.RowKit
attribute [local go_sem] GW.cell GW.frozen In.eq_true In.le_true In.ne In.ne' In.ne_add In.ne_add' In.lt_add Upto.le_true Upto.le_add Upto.lt_add
theorem nanN_c (n : Int) (w : World) : Calls Tryz.prog 228 #[.int .i64 n] w fun e w' => e = .returned (.bool false) ∧ Ext w w' := by
  go_enter Tryz.func228, Tryz.ntmps228
  go_wp2_with fail
  go_returns
  exact ⟨rfl, Ext.refl w⟩
theorem nanT_c (s : ByteArray) (w : World) : Calls Tryz.prog 233 #[.string s] w fun e w' => e = .returned (.bool false) ∧ Ext w w' := by
  go_enter Tryz.func233, Tryz.ntmps233
  go_wp2_with fail
  go_returns
  exact ⟨rfl, Ext.refl w⟩
set_option maxHeartbeats 1000000 in
theorem cmpNum_c (n m : Int) (w : World) : Calls Tryz.prog 227 #[.int .i64 n, .int .i64 m] w fun e w' => e = .returned (.int .i64 (cmpN n m)) ∧ Ext w w' := by
  obtain ⟨r, hr⟩ : ∃ r, r = cmpN n m := ⟨_, rfl⟩
  rw [← hr]
  unfold cmpN at hr
  by_cases h1 : n < m
  · rw [if_pos h1] at hr
    subst hr
    go_enter Tryz.func227, Tryz.ntmps227
    go_wp2_with (go_at_call 228; (first | (with_reducible refine seq_gw' (nanN_c _ _) ?_) | (with_reducible refine seq_gw (nanN_c _ _) ?_)); intro g)
    go_returns
    exact ⟨rfl, g.grown⟩
  · by_cases h2 : m < n
    · rw [if_neg h1, if_pos h2] at hr
      subst hr
      go_enter Tryz.func227, Tryz.ntmps227
      go_wp2_with (go_at_call 228; (first | (with_reducible refine seq_gw' (nanN_c _ _) ?_) | (with_reducible refine seq_gw (nanN_c _ _) ?_)); intro g)
      go_returns
      exact ⟨rfl, g.grown⟩
    · rw [if_neg h1, if_neg h2] at hr
      subst hr
      have e : n = m := by omega
      subst e
      go_enter Tryz.func227, Tryz.ntmps227
      go_wp2_with (go_at_call 228; (first | (with_reducible refine seq_gw' (nanN_c _ _) ?_) | (with_reducible refine seq_gw (nanN_c _ _) ?_)); intro g)
      go_returns
      exact ⟨rfl, g.grown⟩
set_option maxHeartbeats 1000000 in
theorem cmpText_c (s t : ByteArray) (w : World) : Calls Tryz.prog 232 #[.string s, .string t] w fun e w' => e = .returned (.int .i64 (cmpL s.data.toList t.data.toList)) ∧ Ext w w' := by
  have key : ∀ r, cmpL s.data.toList t.data.toList = r → Calls Tryz.prog 232 #[.string s, .string t] w fun e w' => e = .returned (.int .i64 r) ∧ Ext w w' := by
    intro r hr
    have hlt := less_iff s.data.toList t.data.toList
    rw [hr, ← Lib.toList_data, ← Lib.toList_data] at hlt
    have heq : (s.toList == t.toList) = decide (r = 0) := by
      have := cmpL_zero s.data.toList t.data.toList
      rw [hr] at this
      rw [Lib.toList_data, Lib.toList_data]
      by_cases h : r = 0
      · simp [h, this.1 h]
      · simp [h]; intro e; exact h (this.2 (by rw [e]))
    rcases cmpL_range s.data.toList t.data.toList with e | e | e <;> rw [hr] at e <;> subst e <;> clear hr
    · replace hlt : Op.bytesLess s.toList t.toList = true := hlt
      clear heq
      go_enter Tryz.func232, Tryz.ntmps232
      go_wp2_with (go_at_call 233; (first | (with_reducible refine seq_gw' (nanT_c _ _) ?_) | (with_reducible refine seq_gw (nanT_c _ _) ?_)); intro g)
      go_returns
      exact ⟨rfl, g.grown⟩
    · replace hlt : Op.bytesLess s.toList t.toList = false := hlt
      replace heq : (s.toList == t.toList) = true := heq
      have hgt : ∀ w, (binOp .gtr 214 (.string s) (.string t)).run Tryz.prog w = .ok (.bool false) w := fun w => by simp [binOp, Op.stringOp, hlt, heq]
      go_enter Tryz.func232, Tryz.ntmps232
      go_wp2_with (go_at_call 233; (first | (with_reducible refine seq_gw' (nanT_c _ _) ?_) | (with_reducible refine seq_gw (nanT_c _ _) ?_)); intro g)
      go_returns
      exact ⟨rfl, g.grown⟩
    · replace hlt : Op.bytesLess s.toList t.toList = false := hlt
      replace heq : (s.toList == t.toList) = false := heq
      have hgt : ∀ w, (binOp .gtr 214 (.string s) (.string t)).run Tryz.prog w = .ok (.bool true) w := fun w => by simp [binOp, Op.stringOp, hlt, heq]
      go_enter Tryz.func232, Tryz.ntmps232
      go_wp2_with (go_at_call 233; (first | (with_reducible refine seq_gw' (nanT_c _ _) ?_) | (with_reducible refine seq_gw (nanT_c _ _) ?_)); intro g)
      go_returns
      exact ⟨rfl, g.grown⟩
  exact key _ rfl
theorem as_nn (m : Int) (w : World) : (Instr.typeAssert (.iface 213 (.int .i64 m)) 199 213 true).run Tryz.prog w = .ok (.tuple #[.int .i64 m, .bool true]) w := by kernel_rfl
theorem as_nt (s : ByteArray) (w : World) : (Instr.typeAssert (.iface 214 (.string s)) 199 213 true).run Tryz.prog w = .ok (.tuple #[.int .i64 0, .bool false]) w := by kernel_rfl
theorem as_tt (s : ByteArray) (w : World) : (Instr.typeAssert (.iface 214 (.string s)) 199 214 true).run Tryz.prog w = .ok (.tuple #[.string s, .bool true]) w := by kernel_rfl
theorem as_tn (m : Int) (w : World) : (Instr.typeAssert (.iface 213 (.int .i64 m)) 199 214 true).run Tryz.prog w = .ok (.tuple #[.string ⟨#[]⟩, .bool false]) w := by kernel_rfl
theorem as_n (m : Int) (w : World) : (Instr.typeAssert (.iface 213 (.int .i64 m)) 199 213 false).run Tryz.prog w = .ok (.int .i64 m) w := by kernel_rfl
theorem as_t (s : ByteArray) (w : World) : (Instr.typeAssert (.iface 214 (.string s)) 199 214 false).run Tryz.prog w = .ok (.string s) w := by kernel_rfl
set_option maxHeartbeats 1000000 in
set_option maxRecDepth 100000 in
theorem numNum_c (n m : Int) (w : World) : Calls Tryz.prog 225 #[.int .i64 n, .iface 213 (.int .i64 m)] w fun e w' => e = .returned (.int .i64 (cmpN n m)) ∧ Ext w w' := by
  have hc := hide (fun w => cmpNum_c n m w)
  generalize cmpN n m = r at hc
  have t1 := as_nn m
  have t2 := as_n m
  go_enter Tryz.func225, Tryz.ntmps225
  go_wp2_with (go_at_call 227; refine seq_gw (hc.out _) ?_; intro g)
  go_returns
  exact ⟨rfl, g.grown⟩
set_option maxHeartbeats 1000000 in
set_option maxRecDepth 100000 in
theorem numText_c (n : Int) (t : ByteArray) (w : World) : Calls Tryz.prog 225 #[.int .i64 n, .iface 214 (.string t)] w fun e w' => e = .returned (.int .i64 (-1)) ∧ Ext w w' := by
  have t1 := as_nt t
  go_enter Tryz.func225, Tryz.ntmps225
  go_wp2_with fail
  go_returns
  exact ⟨rfl, Ext.refl w⟩
set_option maxHeartbeats 1000000 in
set_option maxRecDepth 100000 in
theorem textText_c (s t : ByteArray) (w : World) : Calls Tryz.prog 230 #[.string s, .iface 214 (.string t)] w fun e w' => e = .returned (.int .i64 (cmpL s.data.toList t.data.toList)) ∧ Ext w w' := by
  have hc := hide (fun w => cmpText_c s t w)
  generalize cmpL s.data.toList t.data.toList = r at hc
  have t1 := as_tt t
  have t2 := as_t t
  go_enter Tryz.func230, Tryz.ntmps230
  go_wp2_with (go_at_call 232; refine seq_gw (hc.out _) ?_; intro g)
  go_returns
  exact ⟨rfl, g.grown⟩
set_option maxHeartbeats 1000000 in
set_option maxRecDepth 100000 in
theorem textNum_c (s : ByteArray) (m : Int) (w : World) : Calls Tryz.prog 230 #[.string s, .iface 213 (.int .i64 m)] w fun e w' => e = .returned (.int .i64 1) ∧ Ext w w' := by
  have t1 := as_tn m
  go_enter Tryz.func230, Tryz.ntmps230
  go_wp2_with fail
  go_returns
  exact ⟨rfl, Ext.refl w⟩
set_option maxHeartbeats 1000000 in
set_option maxRecDepth 100000 in
theorem cmpNN_c (n m : Int) (s t : ByteArray) (hs : s.size = 0) (ht : t.size = 0) (w : World) : Calls Tryz.prog 168 #[val 1 n s, val 1 m t] w fun e w' => e = .returned (.int .i64 (cmpN n m)) ∧ Ext w w' := by
  have h1 := hide (fun w => inner_num n s hs w)
  have h2 := hide (fun w => inner_num m t ht w)
  have hc := hide (fun w => numNum_c n m w)
  obtain ⟨r, hr⟩ : ∃ r, r = cmpN n m := ⟨_, rfl⟩
  rw [← hr] at hc ⊢
  clear hr
  clear hs ht
  go_enter Tryz.func168, Tryz.ntmps168
  go_wp2_with (first | (go_at_call 190; (first | (with_reducible refine seq_gw' (h2.out _) ?_) | (with_reducible refine seq_gw (h1.out _) ?_)); intro g) | (go_at_call 225; with_reducible refine seq_gw' (hc.out _) ?_; intro g))
  go_returns
  exact ⟨rfl, (((Ext.refl w).alloc _).alloc _).trans g.grown⟩
set_option maxHeartbeats 1000000 in
set_option maxRecDepth 100000 in
theorem cmpNT_c (n : Int) (s t : ByteArray) (hs : s.size = 0) (ht : t.size ≤ 64) (w : World) : Calls Tryz.prog 168 #[val 1 n s, val 2 0 t] w fun e w' => e = .returned (.int .i64 (-1)) ∧ Ext w w' := by
  have h1 := hide (fun w => inner_num n s hs w)
  have h2 := hide (fun w => inner_text t ht w)
  have hc := hide (fun w => numText_c n t w)
  clear hs ht
  go_enter Tryz.func168, Tryz.ntmps168
  go_wp2_with (first | (go_at_call 190; (first | (with_reducible refine seq_gw' (h2.out _) ?_) | (with_reducible refine seq_gw (h1.out _) ?_)); intro g) | (go_at_call 225; with_reducible refine seq_gw' (hc.out _) ?_; intro g))
  go_returns
  exact ⟨rfl, (((Ext.refl w).alloc _).alloc _).trans g.grown⟩
set_option maxHeartbeats 1000000 in
set_option maxRecDepth 100000 in
theorem cmpTN_c (m : Int) (s t : ByteArray) (hs : s.size ≤ 64) (ht : t.size = 0) (w : World) : Calls Tryz.prog 168 #[val 2 0 s, val 1 m t] w fun e w' => e = .returned (.int .i64 (1)) ∧ Ext w w' := by
  have h1 := hide (fun w => inner_text s hs w)
  have h2 := hide (fun w => inner_num m t ht w)
  have hc := hide (fun w => textNum_c s m w)
  clear hs ht
  go_enter Tryz.func168, Tryz.ntmps168
  go_wp2_with (first | (go_at_call 190; (first | (with_reducible refine seq_gw' (h2.out _) ?_) | (with_reducible refine seq_gw (h1.out _) ?_)); intro g) | (go_at_call 230; with_reducible refine seq_gw' (hc.out _) ?_; intro g))
  go_returns
  exact ⟨rfl, (((Ext.refl w).alloc _).alloc _).trans g.grown⟩
set_option maxHeartbeats 1000000 in
set_option maxRecDepth 100000 in
theorem cmpTT_c (s t : ByteArray) (hs : s.size ≤ 64) (ht : t.size ≤ 64) (w : World) : Calls Tryz.prog 168 #[val 2 0 s, val 2 0 t] w fun e w' => e = .returned (.int .i64 (cmpL s.data.toList t.data.toList)) ∧ Ext w w' := by
  have h1 := hide (fun w => inner_text s hs w)
  have h2 := hide (fun w => inner_text t ht w)
  have hc := hide (fun w => textText_c s t w)
  obtain ⟨r, hr⟩ : ∃ r, r = cmpL s.data.toList t.data.toList := ⟨_, rfl⟩
  rw [← hr] at hc ⊢
  clear hr hs ht
  go_enter Tryz.func168, Tryz.ntmps168
  go_wp2_with (first | (go_at_call 190; (first | (with_reducible refine seq_gw' (h2.out _) ?_) | (with_reducible refine seq_gw (h1.out _) ?_)); intro g) | (go_at_call 230; with_reducible refine seq_gw' (hc.out _) ?_; intro g))
  go_returns
  exact ⟨rfl, (((Ext.refl w).alloc _).alloc _).trans g.grown⟩
theorem inner_some {k n : Int} {s : ByteArray} (h : mayB k n s = true) : ∃ v, ∀ w, Calls Tryz.prog 190 #[val k n s] w fun e w' => e = .returned (.tuple #[v, .bool true]) ∧ Ext w w' := by
  rcases may_cases (k := k) (n := n) (s := s) with ⟨rfl, h'⟩ | ⟨rfl, rfl, h'⟩ | ⟨hm, _⟩
  · exact ⟨_, fun w => inner_num n s h' w⟩
  · exact ⟨_, fun w => inner_text s h' w⟩
  · rw [h] at hm; cases hm
theorem inner_no {k n : Int} {s : ByteArray} (h : mayB k n s = false) (w : World) : Calls Tryz.prog 190 #[val k n s] w fun e w' => e = .returned (.tuple #[.nilIface, .bool false]) ∧ Ext w w' := by
  rcases may_cases (k := k) (n := n) (s := s) with ⟨rfl, h'⟩ | ⟨rfl, rfl, h'⟩ | ⟨_, h'⟩
  · rw [may_num h'] at h; cases h
  · rw [may_text h'] at h; cases h
  · exact inner_none k n s h' w
set_option maxHeartbeats 1000000 in
set_option maxRecDepth 100000 in
theorem cmpNo1_c (k n k' m : Int) (s t : ByteArray) (h : mayB k n s = false) (w : World) : Calls Tryz.prog 168 #[val k n s, val k' m t] w fun e w' => e = .returned (.int .i64 0) ∧ Ext w w' := by
  have h1 := hide (fun w => inner_no h w)
  clear h
  go_enter Tryz.func168, Tryz.ntmps168
  go_wp2_with (first | (go_at_call 190; with_reducible refine seq_gw (h1.out _) ?_; intro g))
  go_returns
  exact ⟨rfl, (((Ext.refl w).alloc _).alloc _).trans g.grown⟩
set_option maxHeartbeats 1000000 in
set_option maxRecDepth 100000 in
theorem cmpNo2_c (k n k' m : Int) (s t : ByteArray) (h : mayB k n s = true) (h' : mayB k' m t = false) (w : World) : Calls Tryz.prog 168 #[val k n s, val k' m t] w fun e w' => e = .returned (.int .i64 0) ∧ Ext w w' := by
  obtain ⟨v, h1⟩ := inner_some h
  replace h1 := hide h1
  have h2 := hide (fun w => inner_no h' w)
  clear h h'
  go_enter Tryz.func168, Tryz.ntmps168
  go_wp2_with (first | (go_at_call 190; (first | (with_reducible refine seq_gw' (h2.out _) ?_) | (with_reducible refine seq_gw (h1.out _) ?_)); intro g))
  go_returns
  exact ⟨rfl, (((Ext.refl w).alloc _).alloc _).trans g.grown⟩
/-- How a value stands to another. -/
theorem compare_c (k n k' m : Int) (s t : ByteArray) (w : World) : Calls Tryz.prog 168 #[val k n s, val k' m t] w fun e w' => e = .returned (.int .i64 (cmpV (k, n, s) (k', m, t))) ∧ Ext w w' := by
  unfold cmpV may
  simp only
  rcases may_cases (k := k) (n := n) (s := s) with ⟨rfl, h⟩ | ⟨rfl, rfl, h⟩ | ⟨hm, h⟩ <;> rcases may_cases (k := k') (n := m) (s := t) with ⟨rfl, h'⟩ | ⟨rfl, rfl, h'⟩ | ⟨hm', h'⟩
  · rw [may_num h, may_num h']; exact cmpNN_c n m s t h h' w
  · rw [may_num h, may_text h']; exact cmpNT_c n s t h h' w
  · rw [may_num h, hm']; exact cmpNo2_c _ _ _ _ _ _ (may_num h) hm' w
  · rw [may_text h, may_num h']; exact cmpTN_c m s t h h' w
  · rw [may_text h, may_text h']; exact cmpTT_c s t h h' w
  · rw [may_text h, hm']; exact cmpNo2_c _ _ _ _ _ _ (may_text h) hm' w
  · rw [hm]; exact cmpNo1_c _ _ _ _ _ _ hm w
  · rw [hm]; exact cmpNo1_c _ _ _ _ _ _ hm w
  · rw [hm]; exact cmpNo1_c _ _ _ _ _ _ hm w
end Go.Proofs.YtljkneajdndgjaaGreat
set_option linter.unusedVariables false
set_option linter.unusedSimpArgs false
namespace Go.Proofs.YtljkneajdndgjaaGreat
open Go.RowKit
attribute [local go_sem] GW.cell GW.frozen In.eq_true In.le_true In.ne In.ne' In.ne_add In.ne_add' In.lt_add Upto.le_true Upto.le_add Upto.lt_add
theorem drop_get {s : ByteArray} {k : Nat} (h : k < s.size) : s.data.toList.drop k = s[k] :: s.data.toList.drop (k + 1) := by
  have : k < s.data.toList.length := by rw [Array.length_toList]; exact h
  rw [List.drop_eq_getElem_cons this]
  rfl
theorem drop_end {s : ByteArray} {k : Nat} (h : s.size ≤ k) : s.data.toList.drop k = [] := List.drop_eq_nil_of_le (by rw [Array.length_toList]; exact h)
def obV (k n : Int) (s : ByteArray) : Obj := .cells #[.int .i64 k, .int .i64 n, .string s] 64
set_option maxHeartbeats 4000000 in
set_option maxRecDepth 100000 in
theorem refCmpE_c (k n : Int) (s t : ByteArray) (hs : s.size ≤ 64) (ht : t.size ≤ 64) (h1 : mayB k n s = true) (h2 : mayB k n t = true) (w : World) :
    Calls Tryz.prog 152 #[val k n s, val k n t] w fun e w' => e = .returned (.int .i64 (cmpL s.data.toList t.data.toList)) ∧ Ext w w' := by
  have m1 := hide (fun w => refMay_c k n s w)
  have m2 := hide (fun w => refMay_c k n t w)
  rw [h1] at m1
  rw [h2] at m2
  clear h1 h2
  obtain ⟨R, hR⟩ : ∃ R, R = cmpL s.data.toList t.data.toList := ⟨_, rfl⟩
  rw [← hR]
  replace hR := hide hR
  go_enter Tryz.func152, Tryz.ntmps152
  go_wp2_with (go_at_call 151; (first | (with_reducible refine seq_gw' (m2.out _) ?_) | (with_reducible refine seq_gw (m1.out _) ?_)); intro g)
  have hX0 : Ext ((w.alloc (obV k n s)).alloc (obV k n t)) g.val := g.grown
  have hXw := hide (show Ext w ((w.alloc (obV k n s)).alloc (obV k n t)) from ((Ext.refl w).alloc _).alloc _)
  have hcs : ∀ wr, Ext ((w.alloc (obV k n s)).alloc (obV k n t)) wr → wr.cell? ⟨w.heap.size, 2, none⟩ = some (.string s) := fun wr hX => ((Ob.new w 64 [.int .i64 k, .int .i64 n, .string s]).alloc (obV k n t)).ext hX |>.cell 2 rfl
  have hct : ∀ wr, Ext ((w.alloc (obV k n s)).alloc (obV k n t)) wr → wr.cell? ⟨w.heap.size + 1, 2, none⟩ = some (.string t) := fun wr hX => by
    have := (Ob.new (w.alloc (obV k n s)) 64 [.int .i64 k, .int .i64 n, .string t]).ext (w := wr) hX
    have := this.cell 2 rfl
    simpa using this
  replace hcs := hide hcs
  replace hct := hide hct
  go_loopg [5] s.size (fun gh i wr => ∃ (j : Nat), i = .int .i64 j ∧ j + gh = s.size ∧ j ≤ t.size ∧ Hid (R = cmpL (s.data.toList.drop j) (t.data.toList.drop j)) ∧ Ext ((w.alloc (obV k n s)).alloc (obV k n t)) wr)
  case atStart => exact ⟨0, rfl, by omega, Nat.zero_le _, hR, hX0⟩
  case round =>
    obtain ⟨j, rfl, hj, hjt, hRj, hX⟩ := hrel
    clear hR hX0 g
    have c1 := hcs.out wr hX
    have c2 := hct.out wr hX
    have hR2 := hRj.out
    by_cases hb : j < s.size ∧ j < t.size
    · obtain ⟨hb1, hb2⟩ := hb
      rw [drop_get hb1, drop_get hb2] at hR2
      rcases u8_tri s[j] t[j] with h | h | h
      · rw [cmpL_lt _ _ h] at hR2
        subst hR2
        have h' : s[j].toNat < t[j].toNat := h
        have hne : ((s[j].toNat : Int) == (t[j].toNat : Int)) = false := by simp; omega
        clear hRj h
        go_wp2_with fail
        go_quiet (fail)
        go_wp2_with fail
        go_quiet (fail)
        go_wp2_with fail
        go_returns
        exact ⟨rfl, ((hXw.out.trans hX).drewN _).drewN _⟩
      · rw [h, cmpL_eq] at hR2
        replace hR2 := hide hR2
        have hne : ((s[j].toNat : Int) == (t[j].toNat : Int)) = true := by rw [h]; simp
        clear hRj h
        go_wp2_with fail
        go_quiet (fail)
        go_wp2_with fail
        go_roundg (s.size - (j + 1))
        case measure => omega
        case rel => exact ⟨j + 1, by go_num, by omega, by omega, hR2, hX.drewN _⟩
      · rw [cmpL_gt _ _ h] at hR2
        subst hR2
        have h' : t[j].toNat < s[j].toNat := h
        have hne : ((s[j].toNat : Int) == (t[j].toNat : Int)) = false := by simp; omega
        clear hRj h
        go_wp2_with fail
        go_quiet (fail)
        go_wp2_with fail
        go_quiet (fail)
        go_wp2_with fail
        go_returns
        exact ⟨rfl, ((hXw.out.trans hX).drewN _).drewN _⟩
    · rcases Nat.lt_trichotomy s.size t.size with h | h | h
      · have hjs : j = s.size := by omega
        subst hjs
        rw [drop_end (Nat.le_refl _), drop_get h] at hR2
        replace hR2 : R = -1 := hR2
        subst hR2
        have hne : ((s.size : Int) == (t.size : Int)) = false := by simp; omega
        clear hRj hb
        go_wp2_with fail
        go_returns
        exact ⟨rfl, hXw.out.trans hX⟩
      · have hjs : j = s.size := by omega
        subst hjs
        rw [drop_end (Nat.le_refl _), drop_end (by omega)] at hR2
        replace hR2 : R = 0 := hR2
        subst hR2
        have hne : ((s.size : Int) == (t.size : Int)) = true := by simp; omega
        clear hRj hb
        go_wp2_with fail
        go_returns
        exact ⟨rfl, hXw.out.trans hX⟩
      · have hjs : j = t.size := by omega
        subst hjs
        rw [drop_end (Nat.le_refl t.size), drop_get h] at hR2
        replace hR2 : R = 1 := hR2
        subst hR2
        have hne : ((s.size : Int) == (t.size : Int)) = false := by simp; omega
        clear hRj hb
        go_wp2_with fail
        go_returns
        exact ⟨rfl, hXw.out.trans hX⟩
set_option maxHeartbeats 1000000 in
set_option maxRecDepth 100000 in
theorem refCmpNo1_c (k n k' m : Int) (s t : ByteArray) (h : mayB k n s = false) (w : World) : Calls Tryz.prog 152 #[val k n s, val k' m t] w fun e w' => e = .returned (.int .i64 0) ∧ Ext w w' := by
  have m1 := hide (fun w => refMay_c k n s w)
  rw [h] at m1
  clear h
  go_enter Tryz.func152, Tryz.ntmps152
  go_wp2_with (go_at_call 151; with_reducible refine seq_gw (m1.out _) ?_; intro g)
  go_returns
  exact ⟨rfl, (((Ext.refl w).alloc _).alloc _).trans g.grown⟩
set_option maxHeartbeats 1000000 in
set_option maxRecDepth 100000 in
theorem refCmpNo2_c (k n k' m : Int) (s t : ByteArray) (h : mayB k n s = true) (h' : mayB k' m t = false) (w : World) : Calls Tryz.prog 152 #[val k n s, val k' m t] w fun e w' => e = .returned (.int .i64 0) ∧ Ext w w' := by
  have m1 := hide (fun w => refMay_c k n s w)
  have m2 := hide (fun w => refMay_c k' m t w)
  rw [h] at m1
  rw [h'] at m2
  clear h h'
  go_enter Tryz.func152, Tryz.ntmps152
  go_wp2_with (go_at_call 151; (first | (with_reducible refine seq_gw' (m2.out _) ?_) | (with_reducible refine seq_gw (m1.out _) ?_)); intro g)
  go_returns
  exact ⟨rfl, (((Ext.refl w).alloc _).alloc _).trans g.grown⟩
set_option maxHeartbeats 1000000 in
set_option maxRecDepth 100000 in
theorem refCmpK_c (k n k' m r : Int) (s t : ByteArray) (h : mayB k n s = true) (h' : mayB k' m t = true) (hr : (k = 1 ∧ k' = 2 ∧ r = -1) ∨ (k = 2 ∧ k' = 1 ∧ r = 1) ∨ (k = 1 ∧ k' = 1 ∧ n < m ∧ r = -1) ∨ (k = 1 ∧ k' = 1 ∧ m < n ∧ r = 1)) (w : World) : Calls Tryz.prog 152 #[val k n s, val k' m t] w fun e w' => e = .returned (.int .i64 r) ∧ Ext w w' := by
  have m1 := hide (fun w => refMay_c k n s w)
  have m2 := hide (fun w => refMay_c k' m t w)
  rw [h] at m1
  rw [h'] at m2
  clear h h'
  rcases hr with ⟨rfl, rfl, rfl⟩ | ⟨rfl, rfl, rfl⟩ | ⟨rfl, rfl, hl, rfl⟩ | ⟨rfl, rfl, hl, rfl⟩
  · go_enter Tryz.func152, Tryz.ntmps152
    go_wp2_with (go_at_call 151; (first | (with_reducible refine seq_gw' (m2.out _) ?_) | (with_reducible refine seq_gw (m1.out _) ?_)); intro g)
    go_returns
    exact ⟨rfl, (((Ext.refl w).alloc _).alloc _).trans g.grown⟩
  · go_enter Tryz.func152, Tryz.ntmps152
    go_wp2_with (go_at_call 151; (first | (with_reducible refine seq_gw' (m2.out _) ?_) | (with_reducible refine seq_gw (m1.out _) ?_)); intro g)
    go_returns
    exact ⟨rfl, (((Ext.refl w).alloc _).alloc _).trans g.grown⟩
  · have hne : (n == m) = false := by simp; omega
    go_enter Tryz.func152, Tryz.ntmps152
    go_wp2_with (go_at_call 151; (first | (with_reducible refine seq_gw' (m2.out _) ?_) | (with_reducible refine seq_gw (m1.out _) ?_)); intro g)
    go_returns
    exact ⟨rfl, (((Ext.refl w).alloc _).alloc _).trans g.grown⟩
  · have hne : (n == m) = false := by simp; omega
    go_enter Tryz.func152, Tryz.ntmps152
    go_wp2_with (go_at_call 151; (first | (with_reducible refine seq_gw' (m2.out _) ?_) | (with_reducible refine seq_gw (m1.out _) ?_)); intro g)
    go_returns
    exact ⟨rfl, (((Ext.refl w).alloc _).alloc _).trans g.grown⟩
/-- How a value stands to another, in the document. -/
theorem refCompare_c (k n k' m : Int) (s t : ByteArray) (w : World) : Calls Tryz.prog 152 #[val k n s, val k' m t] w fun e w' => e = .returned (.int .i64 (cmpV (k, n, s) (k', m, t))) ∧ Ext w w' := by
  unfold cmpV may
  simp only
  rcases may_cases (k := k) (n := n) (s := s) with ⟨rfl, h⟩ | ⟨rfl, rfl, h⟩ | ⟨hm, h⟩ <;> rcases may_cases (k := k') (n := m) (s := t) with ⟨rfl, h'⟩ | ⟨rfl, rfl, h'⟩ | ⟨hm', h'⟩
  · rw [may_num h, may_num h']
    show Calls _ _ _ w fun e w' => e = .returned (.int .i64 (cmpN n m)) ∧ Ext w w'
    unfold cmpN
    by_cases h1 : n < m
    · rw [if_pos h1]; exact refCmpK_c 1 n 1 m _ s t (may_num h) (may_num h') (.inr (.inr (.inl ⟨rfl, rfl, h1, rfl⟩))) w
    · by_cases h2 : m < n
      · rw [if_neg h1, if_pos h2]; exact refCmpK_c 1 n 1 m _ s t (may_num h) (may_num h') (.inr (.inr (.inr ⟨rfl, rfl, h2, rfl⟩))) w
      · rw [if_neg h1, if_neg h2]
        obtain rfl : n = m := by omega
        have := refCmpE_c 1 n s t (by omega) (by omega) (may_num h) (may_num h') w
        rw [empty_of h, empty_of h'] at this ⊢
        exact this
  · rw [may_num h, may_text h']; exact refCmpK_c 1 n 2 0 _ s t (may_num h) (may_text h') (.inl ⟨rfl, rfl, rfl⟩) w
  · rw [may_num h, hm']; exact refCmpNo2_c _ _ _ _ _ _ (may_num h) hm' w
  · rw [may_text h, may_num h']; exact refCmpK_c 2 0 1 m _ s t (may_text h) (may_num h') (.inr (.inl ⟨rfl, rfl, rfl⟩)) w
  · rw [may_text h, may_text h']; exact refCmpE_c 2 0 s t h h' (may_text h) (may_text h') w
  · rw [may_text h, hm']; exact refCmpNo2_c _ _ _ _ _ _ (may_text h) hm' w
  · rw [hm]; exact refCmpNo1_c _ _ _ _ _ _ hm w
  · rw [hm]; exact refCmpNo1_c _ _ _ _ _ _ hm w
  · rw [hm]; exact refCmpNo1_c _ _ _ _ _ _ hm w
end Go.Proofs.YtljkneajdndgjaaGreat
