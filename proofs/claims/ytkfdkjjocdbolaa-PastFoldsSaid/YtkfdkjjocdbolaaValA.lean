/-
  A helper of ours: no claim of its own. Layer 5 (value): what a value is, on both sides.
-/
import Derived.Test.YtkfdkjjocdbolaaValS
import Derived.Lib.IndexBytes
import Derived.WalkSpells
import Derived.Handy
set_option linter.unusedVariables false
set_option linter.unusedSimpArgs false
namespace Go.Proofs.Ytkfdkjjocdbolaa
open Go.RowKit
attribute [local go_sem] GW.cell GW.frozen In.eq_true In.le_true In.ne In.ne' In.ne_add In.ne_add' In.lt_add Upto.le_true Upto.le_add Upto.lt_add
/-- A value: its kind, its number, its text. -/
abbrev val (k n : Int) (s : ByteArray) : Value := .agg #[.int .i64 k, .int .i64 n, .string s]
theorem empty_yes {s : ByteArray} (h : s.size = 0) : s.toList.isEmpty = true := by rw [Lib.toList_data]; rw [List.isEmpty_iff]; exact List.eq_nil_of_length_eq_zero (by rw [Array.length_toList]; exact h)
theorem empty_no {s : ByteArray} (h : s.size ≠ 0) : s.toList.isEmpty = false := by
  cases e : s.toList.isEmpty with
  | false => rfl
  | true => rw [Lib.toList_data, List.isEmpty_iff] at e; exact absurd (by have := congrArg List.length e; rw [Array.length_toList] at this; exact this) h

theorem may_num {n : Int} {s : ByteArray} (h : s.size = 0) : mayB 1 n s = true := by simp [mayB, h]
theorem may_text {s : ByteArray} (h : s.size ≤ 64) : mayB 2 0 s = true := by simp [mayB, h]
theorem may_cases {k n : Int} {s : ByteArray} : (k = 1 ∧ s.size = 0) ∨ (k = 2 ∧ n = 0 ∧ s.size ≤ 64) ∨ (mayB k n s = false ∧ ((k = 1 ∧ s.size ≠ 0) ∨ (k ≠ 1 ∧ k ≠ 2) ∨ (k = 2 ∧ n ≠ 0) ∨ (k = 2 ∧ n = 0 ∧ 64 < s.size))) := by
  by_cases h : mayB k n s = true
  · unfold mayB at h; rw [Bool.or_eq_true, decide_eq_true_iff, decide_eq_true_iff] at h; rcases h with h | h
    · exact .inl h
    · exact .inr (.inl h)
  · have h' : mayB k n s = false := by simpa using h
    refine .inr (.inr ⟨h', ?_⟩)
    unfold mayB at h'
    rw [Bool.or_eq_false_iff, decide_eq_false_iff_not, decide_eq_false_iff_not] at h'
    omega
set_option maxHeartbeats 1000000 in
theorem inner_num (n : Int) (s : ByteArray) (hs : s.size = 0) (w : World) : Calls Try.prog 95 #[val 1 n s] w fun e w' => e = .returned (.tuple #[.iface 141 (.int .i64 n), .bool true]) ∧ Ext w w' := by
  have he := empty_yes hs
  go_enter Try.func95, Try.ntmps95
  go_wp2_with fail
  go_returns
  exact ⟨rfl, (Ext.refl w).alloc _⟩
set_option maxHeartbeats 1000000 in
theorem inner_text (s : ByteArray) (hs : s.size ≤ 64) (w : World) : Calls Try.prog 95 #[val 2 0 s] w fun e w' => e = .returned (.tuple #[.iface 142 (.string s), .bool true]) ∧ Ext w w' := by
  have hi : (s.size : Int) ≤ 64 := by omega
  go_enter Try.func95, Try.ntmps95
  go_wp2_with fail
  go_returns
  exact ⟨rfl, (Ext.refl w).alloc _⟩
set_option maxHeartbeats 1000000 in
theorem inner_none (k n : Int) (s : ByteArray) (h : (k = 1 ∧ s.size ≠ 0) ∨ (k ≠ 1 ∧ k ≠ 2) ∨ (k = 2 ∧ n ≠ 0) ∨ (k = 2 ∧ n = 0 ∧ 64 < s.size)) (w : World) : Calls Try.prog 95 #[val k n s] w fun e w' => e = .returned (.tuple #[.nilIface, .bool false]) ∧ Ext w w' := by
  rcases h with ⟨rfl, h⟩ | ⟨h1, h2⟩ | ⟨rfl, h⟩ | ⟨rfl, rfl, h⟩
  · have he := empty_no h
    go_enter Try.func95, Try.ntmps95
    go_wp2_with fail
    go_returns
    exact ⟨rfl, (Ext.refl w).alloc _⟩
  · have e1 : (k == 1) = false := by simpa using h1
    have e2 : (k == 2) = false := by simpa using h2
    go_enter Try.func95, Try.ntmps95
    go_wp2_with fail
    go_returns
    exact ⟨rfl, (Ext.refl w).alloc _⟩
  · have e1 : (n == 0) = false := by simpa using h
    go_enter Try.func95, Try.ntmps95
    go_wp2_with fail
    go_returns
    exact ⟨rfl, (Ext.refl w).alloc _⟩
  · have hi : (64 : Int) < (s.size : Int) := by omega
    go_enter Try.func95, Try.ntmps95
    go_wp2_with fail
    go_returns
    exact ⟨rfl, (Ext.refl w).alloc _⟩
set_option maxHeartbeats 1000000 in
theorem may_c (k n : Int) (s : ByteArray) (w : World) : Calls Try.prog 90 #[val k n s] w fun e w' => e = .returned (.bool (mayB k n s)) ∧ Ext w w' := by
  rcases may_cases (k := k) (n := n) (s := s) with ⟨rfl, h⟩ | ⟨rfl, rfl, h⟩ | ⟨hm, h⟩
  · rw [may_num h]
    have hi := hide (fun w => inner_num n s h w)
    clear h
    go_enter Try.func90, Try.ntmps90
    go_wp2_with (go_at_call 95; refine seq_gw (hi.out _) ?_; intro g)
    go_returns
    exact ⟨rfl, ((Ext.refl w).alloc _).trans g.grown⟩
  · rw [may_text h]
    have hi := hide (fun w => inner_text s h w)
    clear h
    go_enter Try.func90, Try.ntmps90
    go_wp2_with (go_at_call 95; refine seq_gw (hi.out _) ?_; intro g)
    go_returns
    exact ⟨rfl, ((Ext.refl w).alloc _).trans g.grown⟩
  · rw [hm]
    have hi := hide (fun w => inner_none k n s h w)
    clear h hm
    go_enter Try.func90, Try.ntmps90
    go_wp2_with (go_at_call 95; refine seq_gw (hi.out _) ?_; intro g)
    go_returns
    exact ⟨rfl, ((Ext.refl w).alloc _).trans g.grown⟩
set_option maxHeartbeats 1000000 in
theorem refMay_c (k n : Int) (s : ByteArray) (w : World) : Calls Try.prog 34 #[val k n s] w fun e w' => e = .returned (.bool (mayB k n s)) ∧ Ext w w' := by
  have key : ∀ (b : Bool), mayB k n s = b → Calls Try.prog 34 #[val k n s] w fun e w' => e = .returned (.bool b) ∧ Ext w w' := by
    intro b hb
    rcases may_cases (k := k) (n := n) (s := s) with ⟨rfl, h⟩ | ⟨rfl, rfl, h⟩ | ⟨hm, h⟩
    · rw [may_num h] at hb
      subst hb
      have he := empty_yes h
      go_enter Try.func34, Try.ntmps34
      go_wp2_with fail
      go_returns
      exact ⟨rfl, (Ext.refl w).alloc _⟩
    · rw [may_text h] at hb
      subst hb
      have hi : (s.size : Int) ≤ 64 := by omega
      go_enter Try.func34, Try.ntmps34
      go_wp2_with fail
      go_returns
      exact ⟨rfl, (Ext.refl w).alloc _⟩
    · rw [hm] at hb
      subst hb
      clear hm
      rcases h with ⟨rfl, h⟩ | ⟨h1, h2⟩ | ⟨rfl, h⟩ | ⟨rfl, rfl, h⟩
      · have he := empty_no h
        go_enter Try.func34, Try.ntmps34
        go_wp2_with fail
        go_returns
        exact ⟨rfl, (Ext.refl w).alloc _⟩
      · have e1 : (k == 1) = false := by simpa using h1
        have e2 : (k == 2) = false := by simpa using h2
        go_enter Try.func34, Try.ntmps34
        go_wp2_with fail
        go_returns
        exact ⟨rfl, (Ext.refl w).alloc _⟩
      · have e1 : (n == 0) = false := by simpa using h
        go_enter Try.func34, Try.ntmps34
        go_wp2_with fail
        go_returns
        exact ⟨rfl, (Ext.refl w).alloc _⟩
      · have hi : decide ((s.size : Int) ≤ 64) = false := by rw [decide_eq_false_iff_not]; omega
        go_enter Try.func34, Try.ntmps34
        go_wp2_with fail
        go_returns
        exact ⟨rfl, (Ext.refl w).alloc _⟩
  exact key _ rfl
end Go.Proofs.Ytkfdkjjocdbolaa
