/-
  A helper of ours: no claim of its own. Layer 5 (value): the document's order of values.
-/
import Derived.Test.YtjdbjnpomndfjaaValB
import Derived.Deep.LoopGhost
import Derived.BigQuiet
set_option linter.unusedVariables false
set_option linter.unusedSimpArgs false
namespace Go.Proofs.Ytjdbjnpomndfjaa
open Go.RowKit
attribute [local go_sem] GW.cell GW.frozen In.eq_true In.le_true In.ne In.ne' In.ne_add In.ne_add' In.lt_add Upto.le_true Upto.le_add Upto.lt_add
theorem drop_get {s : ByteArray} {k : Nat} (h : k < s.size) : s.data.toList.drop k = s[k] :: s.data.toList.drop (k + 1) := by
  have : k < s.data.toList.length := by rw [Array.length_toList]; exact h
  rw [List.drop_eq_getElem_cons this]
  rfl
theorem drop_end {s : ByteArray} {k : Nat} (h : s.size ≤ k) : s.data.toList.drop k = [] := List.drop_eq_nil_of_le (by rw [Array.length_toList]; exact h)
def obV (k n : Int) (s : ByteArray) : Obj := .cells #[.int .i64 k, .int .i64 n, .string s] 62
set_option maxHeartbeats 4000000 in
set_option maxRecDepth 100000 in
theorem refCmpE_c (k n : Int) (s t : ByteArray) (hs : s.size ≤ 64) (ht : t.size ≤ 64) (h1 : mayB k n s = true) (h2 : mayB k n t = true) (w : World) :
    Calls Try.prog 127 #[val k n s, val k n t] w fun e w' => e = .returned (.int .i64 (cmpL s.data.toList t.data.toList)) ∧ Ext w w' := by
  have m1 := hide (fun w => refMay_c k n s w)
  have m2 := hide (fun w => refMay_c k n t w)
  rw [h1] at m1
  rw [h2] at m2
  clear h1 h2
  obtain ⟨R, hR⟩ : ∃ R, R = cmpL s.data.toList t.data.toList := ⟨_, rfl⟩
  rw [← hR]
  replace hR := hide hR
  go_enter Try.func127, Try.ntmps127
  go_wp2_with (go_at_call 126; (first | (with_reducible refine seq_gw' (m2.out _) ?_) | (with_reducible refine seq_gw (m1.out _) ?_)); intro g)
  have hX0 : Ext ((w.alloc (obV k n s)).alloc (obV k n t)) g.val := g.grown
  have hXw := hide (show Ext w ((w.alloc (obV k n s)).alloc (obV k n t)) from ((Ext.refl w).alloc _).alloc _)
  have hcs : ∀ wr, Ext ((w.alloc (obV k n s)).alloc (obV k n t)) wr → wr.cell? ⟨w.heap.size, 2, none⟩ = some (.string s) := fun wr hX => ((Ob.new w 62 [.int .i64 k, .int .i64 n, .string s]).alloc (obV k n t)).ext hX |>.cell 2 rfl
  have hct : ∀ wr, Ext ((w.alloc (obV k n s)).alloc (obV k n t)) wr → wr.cell? ⟨w.heap.size + 1, 2, none⟩ = some (.string t) := fun wr hX => by
    have := (Ob.new (w.alloc (obV k n s)) 62 [.int .i64 k, .int .i64 n, .string t]).ext (w := wr) hX
    have := this.cell 2 rfl
    simpa using this
  replace hcs := hide hcs
  replace hct := hide hct
  go_loopg [5] s.size (fun gh i wr => ∃ (j : Nat), i = .int .i64 j ∧ j + gh = s.size ∧ j ≤ t.size ∧ Hid (R = cmpL (s.data.toList.drop j) (t.data.toList.drop j)) ∧ Ext ((w.alloc (obV k n s)).alloc (obV k n t)) wr)
  case atStart => exact ⟨0, rfl, by omega, Nat.zero_le _, hR, hX0⟩
  case round =>
    obtain ⟨j, rfl, hj, hjt, hRj, hX⟩ := hrel
    clear hR hX0 g
    have c1 := hcs.out wr hX
    have c2 := hct.out wr hX
    have hR2 := hRj.out
    by_cases hb : j < s.size ∧ j < t.size
    · obtain ⟨hb1, hb2⟩ := hb
      rw [drop_get hb1, drop_get hb2] at hR2
      rcases u8_tri s[j] t[j] with h | h | h
      · rw [cmpL_lt _ _ h] at hR2
        subst hR2
        have h' : s[j].toNat < t[j].toNat := h
        have hne : ((s[j].toNat : Int) == (t[j].toNat : Int)) = false := by simp; omega
        clear hRj h
        go_wp2_with fail
        go_quiet (fail)
        go_wp2_with fail
        go_quiet (fail)
        go_wp2_with fail
        go_returns
        exact ⟨rfl, ((hXw.out.trans hX).drewN _).drewN _⟩
      · rw [h, cmpL_eq] at hR2
        replace hR2 := hide hR2
        have hne : ((s[j].toNat : Int) == (t[j].toNat : Int)) = true := by rw [h]; simp
        clear hRj h
        go_wp2_with fail
        go_quiet (fail)
        go_wp2_with fail
        go_roundg (s.size - (j + 1))
        case measure => omega
        case rel => exact ⟨j + 1, by go_num, by omega, by omega, hR2, hX.drewN _⟩
      · rw [cmpL_gt _ _ h] at hR2
        subst hR2
        have h' : t[j].toNat < s[j].toNat := h
        have hne : ((s[j].toNat : Int) == (t[j].toNat : Int)) = false := by simp; omega
        clear hRj h
        go_wp2_with fail
        go_quiet (fail)
        go_wp2_with fail
        go_quiet (fail)
        go_wp2_with fail
        go_returns
        exact ⟨rfl, ((hXw.out.trans hX).drewN _).drewN _⟩
    · rcases Nat.lt_trichotomy s.size t.size with h | h | h
      · have hjs : j = s.size := by omega
        subst hjs
        rw [drop_end (Nat.le_refl _), drop_get h] at hR2
        replace hR2 : R = -1 := hR2
        subst hR2
        have hne : ((s.size : Int) == (t.size : Int)) = false := by simp; omega
        clear hRj hb
        go_wp2_with fail
        go_returns
        exact ⟨rfl, hXw.out.trans hX⟩
      · have hjs : j = s.size := by omega
        subst hjs
        rw [drop_end (Nat.le_refl _), drop_end (by omega)] at hR2
        replace hR2 : R = 0 := hR2
        subst hR2
        have hne : ((s.size : Int) == (t.size : Int)) = true := by simp; omega
        clear hRj hb
        go_wp2_with fail
        go_returns
        exact ⟨rfl, hXw.out.trans hX⟩
      · have hjs : j = t.size := by omega
        subst hjs
        rw [drop_end (Nat.le_refl t.size), drop_get h] at hR2
        replace hR2 : R = 1 := hR2
        subst hR2
        have hne : ((s.size : Int) == (t.size : Int)) = false := by simp; omega
        clear hRj hb
        go_wp2_with fail
        go_returns
        exact ⟨rfl, hXw.out.trans hX⟩
set_option maxHeartbeats 1000000 in
set_option maxRecDepth 100000 in
theorem refCmpNo1_c (k n k' m : Int) (s t : ByteArray) (h : mayB k n s = false) (w : World) : Calls Try.prog 127 #[val k n s, val k' m t] w fun e w' => e = .returned (.int .i64 0) ∧ Ext w w' := by
  have m1 := hide (fun w => refMay_c k n s w)
  rw [h] at m1
  clear h
  go_enter Try.func127, Try.ntmps127
  go_wp2_with (go_at_call 126; with_reducible refine seq_gw (m1.out _) ?_; intro g)
  go_returns
  exact ⟨rfl, (((Ext.refl w).alloc _).alloc _).trans g.grown⟩
set_option maxHeartbeats 1000000 in
set_option maxRecDepth 100000 in
theorem refCmpNo2_c (k n k' m : Int) (s t : ByteArray) (h : mayB k n s = true) (h' : mayB k' m t = false) (w : World) : Calls Try.prog 127 #[val k n s, val k' m t] w fun e w' => e = .returned (.int .i64 0) ∧ Ext w w' := by
  have m1 := hide (fun w => refMay_c k n s w)
  have m2 := hide (fun w => refMay_c k' m t w)
  rw [h] at m1
  rw [h'] at m2
  clear h h'
  go_enter Try.func127, Try.ntmps127
  go_wp2_with (go_at_call 126; (first | (with_reducible refine seq_gw' (m2.out _) ?_) | (with_reducible refine seq_gw (m1.out _) ?_)); intro g)
  go_returns
  exact ⟨rfl, (((Ext.refl w).alloc _).alloc _).trans g.grown⟩
set_option maxHeartbeats 1000000 in
set_option maxRecDepth 100000 in
theorem refCmpK_c (k n k' m r : Int) (s t : ByteArray) (h : mayB k n s = true) (h' : mayB k' m t = true) (hr : (k = 1 ∧ k' = 2 ∧ r = -1) ∨ (k = 2 ∧ k' = 1 ∧ r = 1) ∨ (k = 1 ∧ k' = 1 ∧ n < m ∧ r = -1) ∨ (k = 1 ∧ k' = 1 ∧ m < n ∧ r = 1)) (w : World) : Calls Try.prog 127 #[val k n s, val k' m t] w fun e w' => e = .returned (.int .i64 r) ∧ Ext w w' := by
  have m1 := hide (fun w => refMay_c k n s w)
  have m2 := hide (fun w => refMay_c k' m t w)
  rw [h] at m1
  rw [h'] at m2
  clear h h'
  rcases hr with ⟨rfl, rfl, rfl⟩ | ⟨rfl, rfl, rfl⟩ | ⟨rfl, rfl, hl, rfl⟩ | ⟨rfl, rfl, hl, rfl⟩
  · go_enter Try.func127, Try.ntmps127
    go_wp2_with (go_at_call 126; (first | (with_reducible refine seq_gw' (m2.out _) ?_) | (with_reducible refine seq_gw (m1.out _) ?_)); intro g)
    go_returns
    exact ⟨rfl, (((Ext.refl w).alloc _).alloc _).trans g.grown⟩
  · go_enter Try.func127, Try.ntmps127
    go_wp2_with (go_at_call 126; (first | (with_reducible refine seq_gw' (m2.out _) ?_) | (with_reducible refine seq_gw (m1.out _) ?_)); intro g)
    go_returns
    exact ⟨rfl, (((Ext.refl w).alloc _).alloc _).trans g.grown⟩
  · have hne : (n == m) = false := by simp; omega
    go_enter Try.func127, Try.ntmps127
    go_wp2_with (go_at_call 126; (first | (with_reducible refine seq_gw' (m2.out _) ?_) | (with_reducible refine seq_gw (m1.out _) ?_)); intro g)
    go_returns
    exact ⟨rfl, (((Ext.refl w).alloc _).alloc _).trans g.grown⟩
  · have hne : (n == m) = false := by simp; omega
    go_enter Try.func127, Try.ntmps127
    go_wp2_with (go_at_call 126; (first | (with_reducible refine seq_gw' (m2.out _) ?_) | (with_reducible refine seq_gw (m1.out _) ?_)); intro g)
    go_returns
    exact ⟨rfl, (((Ext.refl w).alloc _).alloc _).trans g.grown⟩
/-- How a value stands to another, in the document. -/
theorem refCompare_c (k n k' m : Int) (s t : ByteArray) (w : World) : Calls Try.prog 127 #[val k n s, val k' m t] w fun e w' => e = .returned (.int .i64 (cmpV (k, n, s) (k', m, t))) ∧ Ext w w' := by
  unfold cmpV may
  simp only
  rcases may_cases (k := k) (n := n) (s := s) with ⟨rfl, h⟩ | ⟨rfl, rfl, h⟩ | ⟨hm, h⟩ <;> rcases may_cases (k := k') (n := m) (s := t) with ⟨rfl, h'⟩ | ⟨rfl, rfl, h'⟩ | ⟨hm', h'⟩
  · rw [may_num h, may_num h']
    show Calls _ _ _ w fun e w' => e = .returned (.int .i64 (cmpN n m)) ∧ Ext w w'
    unfold cmpN
    by_cases h1 : n < m
    · rw [if_pos h1]; exact refCmpK_c 1 n 1 m _ s t (may_num h) (may_num h') (.inr (.inr (.inl ⟨rfl, rfl, h1, rfl⟩))) w
    · by_cases h2 : m < n
      · rw [if_neg h1, if_pos h2]; exact refCmpK_c 1 n 1 m _ s t (may_num h) (may_num h') (.inr (.inr (.inr ⟨rfl, rfl, h2, rfl⟩))) w
      · rw [if_neg h1, if_neg h2]
        obtain rfl : n = m := by omega
        have := refCmpE_c 1 n s t (by omega) (by omega) (may_num h) (may_num h') w
        rw [empty_of h, empty_of h'] at this ⊢
        exact this
  · rw [may_num h, may_text h']; exact refCmpK_c 1 n 2 0 _ s t (may_num h) (may_text h') (.inl ⟨rfl, rfl, rfl⟩) w
  · rw [may_num h, hm']; exact refCmpNo2_c _ _ _ _ _ _ (may_num h) hm' w
  · rw [may_text h, may_num h']; exact refCmpK_c 2 0 1 m _ s t (may_text h) (may_num h') (.inr (.inl ⟨rfl, rfl, rfl⟩)) w
  · rw [may_text h, may_text h']; exact refCmpE_c 2 0 s t h h' (may_text h) (may_text h') w
  · rw [may_text h, hm']; exact refCmpNo2_c _ _ _ _ _ _ (may_text h) hm' w
  · rw [hm]; exact refCmpNo1_c _ _ _ _ _ _ hm w
  · rw [hm]; exact refCmpNo1_c _ _ _ _ _ _ hm w
  · rw [hm]; exact refCmpNo1_c _ _ _ _ _ _ hm w
end Go.Proofs.Ytjdbjnpomndfjaa
