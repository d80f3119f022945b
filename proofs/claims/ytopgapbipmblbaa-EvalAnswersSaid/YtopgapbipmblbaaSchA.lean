/-
  A helper of ours: no claim of its own. Layer 7 (schema): which texts are names, on both sides.
-/
import Derived.Test.YtopgapbipmblbaaSchS
import Derived.Test.YtopgapbipmblbaaRows
import Derived.Handy
import Derived.Deep.LoopGhost
import Derived.Lib.IndexBytes
import Derived.WalkSpells
import Derived.Lib.ConvBytes
set_option linter.unusedVariables false
set_option linter.unusedSimpArgs false
namespace Go.Proofs.Ytopgapbipmblbaa
open Go.RowKit
attribute [local go_sem] GW.cell GW.frozen In.eq_true In.le_true In.ne In.ne' In.ne_add In.ne_add' In.lt_add Upto.le_true Upto.le_add Upto.lt_add
theorem nm_len (s : ByteArray) : s.data.toList.length = s.size := by rw [Array.length_toList]; rfl
theorem nm_empty (s : ByteArray) : s.toList.isEmpty = decide (s.size = 0) := by
  rw [Lib.toList_data, Bool.eq_iff_iff, List.isEmpty_iff, decide_eq_true_iff, ← List.length_eq_zero_iff, Array.length_toList]
  exact Iff.rfl
theorem nm_at {s : ByteArray} {k : Nat} (h : k < s.size) : s.data.toList[k]? = some s[k] := by
  rw [List.getElem?_eq_getElem (by rw [nm_len]; exact h)]; rfl
theorem name_empty {s : ByteArray} (h : s.size = 0) : nameB s = false := by unfold nameB; rw [h]; rfl
theorem name_long {s : ByteArray} (h : 16 < s.size) : nameB s = false := by
  unfold nameB; rw [decide_eq_false (by omega), Bool.false_and]
theorem name_first {s : ByteArray} (h : 0 < s.size) (h1 : letB s[0] = false) : nameB s = false := by
  have e := nm_at h
  unfold nameB
  rw [List.head?_eq_getElem?, e, Option.any_some, h1, Bool.false_and, Bool.and_false]
theorem name_bad {s : ByteArray} {k : Nat} (h : k < s.size) (h1 : letB s[k] = false) (h2 : digB s[k] = false) : nameB s = false := by
  have hm := List.mem_of_getElem? (nm_at h)
  have : (s.data.toList.all fun c => letB c || digB c) = false := by
    rw [← Bool.not_eq_true, List.all_eq_true]
    intro ha
    have := ha _ hm
    rw [h1, h2] at this
    cases this
  unfold nameB
  rw [this, Bool.false_and, Bool.and_false, Bool.and_false]
theorem name_end {s : ByteArray} (h0 : 0 < s.size) (h16 : s.size ≤ 16) (h1 : letB s[0] = true) (ha : ∀ (j : Nat) (hj : j < s.size), (letB s[j] || digB s[j]) = true) : nameB s = !opB s := by
  have : (s.data.toList.all fun c => letB c || digB c) = true := by
    rw [List.all_eq_true]
    intro c hc
    obtain ⟨j, hj⟩ := List.getElem?_of_mem hc
    have hjs : j < s.size := by rw [← nm_len]; exact (List.getElem?_eq_some_iff.1 hj).1
    rw [nm_at hjs] at hj
    obtain rfl := Option.some.inj hj
    exact ha j hjs
  unfold nameB
  rw [this, List.head?_eq_getElem?, nm_at h0, Option.any_some, h1, decide_eq_true ⟨by omega, h16⟩]
  rfl
theorem letB_true {c : UInt8} : letB c = true ↔ 97 ≤ c.toNat ∧ c.toNat ≤ 122 := by unfold letB; rw [decide_eq_true_iff]
theorem digB_true {c : UInt8} : digB c = true ↔ 48 ≤ c.toNat ∧ c.toNat ≤ 57 := by unfold digB; rw [decide_eq_true_iff]
theorem letB_false {c : UInt8} : letB c = false ↔ c.toNat < 97 ∨ 122 < c.toNat := by rw [← Bool.not_eq_true, letB_true]; omega
theorem digB_false {c : UInt8} : digB c = false ↔ c.toNat < 48 ∨ 57 < c.toNat := by rw [← Bool.not_eq_true, digB_true]; omega
set_option maxHeartbeats 1000000 in
theorem isLetter_c (c : UInt8) (w : World) : Calls Try.prog 106 #[.int .u8 c.toNat] w fun e w' => e = .returned (.bool (letB c)) ∧ Ext w w' := by
  obtain ⟨R, hR⟩ : ∃ R, R = letB c := ⟨_, rfl⟩
  rw [← hR]
  by_cases h1 : 97 ≤ c.toNat
  · by_cases h2 : c.toNat ≤ 122
    · replace hR := hide (hR.trans (letB_true.2 ⟨h1, h2⟩))
      go_enter Try.func106, Try.ntmps106
      go_wp2_with fail
      go_returns
      exact ⟨by rw [hR.out]; first | rfl | (simp; omega), Ext.refl w⟩
    · replace hR := hide (hR.trans (letB_false.2 (.inr (by omega))))
      replace h2 : 122 < c.toNat := by omega
      go_enter Try.func106, Try.ntmps106
      go_wp2_with fail
      go_returns
      exact ⟨by rw [hR.out]; first | rfl | (simp; omega), Ext.refl w⟩
  · replace hR := hide (hR.trans (letB_false.2 (.inl (by omega))))
    replace h1 : c.toNat < 97 := by omega
    go_enter Try.func106, Try.ntmps106
    go_wp2_with fail
    go_returns
    exact ⟨by rw [hR.out]; first | rfl | (simp; omega), Ext.refl w⟩
set_option maxHeartbeats 1000000 in
theorem isDigit_c (c : UInt8) (w : World) : Calls Try.prog 107 #[.int .u8 c.toNat] w fun e w' => e = .returned (.bool (digB c)) ∧ Ext w w' := by
  obtain ⟨R, hR⟩ : ∃ R, R = digB c := ⟨_, rfl⟩
  rw [← hR]
  by_cases h1 : 48 ≤ c.toNat
  · by_cases h2 : c.toNat ≤ 57
    · replace hR := hide (hR.trans (digB_true.2 ⟨h1, h2⟩))
      go_enter Try.func107, Try.ntmps107
      go_wp2_with fail
      go_returns
      exact ⟨by rw [hR.out]; first | rfl | (simp; omega), Ext.refl w⟩
    · replace hR := hide (hR.trans (digB_false.2 (.inr (by omega))))
      replace h2 : 57 < c.toNat := by omega
      go_enter Try.func107, Try.ntmps107
      go_wp2_with fail
      go_returns
      exact ⟨by rw [hR.out]; first | rfl | (simp; omega), Ext.refl w⟩
  · replace hR := hide (hR.trans (digB_false.2 (.inl (by omega))))
    replace h1 : c.toNat < 48 := by omega
    go_enter Try.func107, Try.ntmps107
    go_wp2_with fail
    go_returns
    exact ⟨by rw [hR.out]; first | rfl | (simp; omega), Ext.refl w⟩
/-- Which of the four words it is, if it is one. -/
theorem op_cases (s : ByteArray) : (s.toList = [97, 110, 100] ∧ opB s = true) ∨ (¬ s.toList = [97, 110, 100] ∧ s.toList = [111, 114] ∧ opB s = true) ∨ (¬ s.toList = [97, 110, 100] ∧ ¬ s.toList = [111, 114] ∧ s.toList = [110, 111, 116] ∧ opB s = true) ∨
    (¬ s.toList = [97, 110, 100] ∧ ¬ s.toList = [111, 114] ∧ ¬ s.toList = [110, 111, 116] ∧ s.toList = [108, 101, 110] ∧ opB s = true) ∨ (¬ s.toList = [97, 110, 100] ∧ ¬ s.toList = [111, 114] ∧ ¬ s.toList = [110, 111, 116] ∧ ¬ s.toList = [108, 101, 110] ∧ opB s = false) := by
  rw [Lib.toList_data]
  unfold opB
  by_cases h1 : s.data.toList = [97, 110, 100]
  · left; exact ⟨h1, by simp [h1]⟩
  by_cases h2 : s.data.toList = [111, 114]
  · right; left; exact ⟨h1, h2, by simp [h2]⟩
  by_cases h3 : s.data.toList = [110, 111, 116]
  · right; right; left; exact ⟨h1, h2, h3, by simp [h3]⟩
  by_cases h4 : s.data.toList = [108, 101, 110]
  · right; right; right; left; exact ⟨h1, h2, h3, h4, by simp [h4]⟩
  · right; right; right; right; exact ⟨h1, h2, h3, h4, by rw [decide_eq_false_iff_not]; simp [h1, h2, h3, h4]⟩
theorem beqT {l m : List UInt8} (h : l = m) : (l == m) = true := by rw [h]; exact beq_self_eq_true m
theorem beqF {l m : List UInt8} (h : ¬ l = m) : (l == m) = false := beq_eq_false_iff_ne.2 h
set_option maxHeartbeats 2000000 in
theorem isOperator_c (s : ByteArray) (w : World) : Calls Try.prog 108 #[.string s] w fun e w' => e = .returned (.bool (opB s)) ∧ Ext w w' := by
  obtain ⟨R, hR⟩ : ∃ R, R = opB s := ⟨_, rfl⟩
  rw [← hR]
  rcases op_cases s with ⟨h1, h⟩ | ⟨h1, h2, h⟩ | ⟨h1, h2, h3, h⟩ | ⟨h1, h2, h3, h4, h⟩ | ⟨h1, h2, h3, h4, h⟩
  · replace hR := hide (hR.trans h)
    replace h1 := beqT h1
    clear h
    go_enter Try.func108, Try.ntmps108
    go_wp2_with fail
    go_returns
    exact ⟨by rw [hR.out]; rfl, Ext.refl w⟩
  · replace hR := hide (hR.trans h)
    replace h1 := beqF h1
    replace h2 := beqT h2
    clear h
    go_enter Try.func108, Try.ntmps108
    go_wp2_with fail
    go_returns
    exact ⟨by rw [hR.out]; rfl, Ext.refl w⟩
  · replace hR := hide (hR.trans h)
    replace h1 := beqF h1
    replace h2 := beqF h2
    replace h3 := beqT h3
    clear h
    go_enter Try.func108, Try.ntmps108
    go_wp2_with fail
    go_returns
    exact ⟨by rw [hR.out]; rfl, Ext.refl w⟩
  · replace hR := hide (hR.trans h)
    replace h1 := beqF h1
    replace h2 := beqF h2
    replace h3 := beqF h3
    replace h4 := beqT h4
    clear h
    go_enter Try.func108, Try.ntmps108
    go_wp2_with fail
    go_returns
    exact ⟨by rw [hR.out]; rfl, Ext.refl w⟩
  · replace hR := hide (hR.trans h)
    replace h1 := beqF h1
    replace h2 := beqF h2
    replace h3 := beqF h3
    replace h4 := beqF h4
    clear h
    go_enter Try.func108, Try.ntmps108
    go_wp2_with fail
    go_returns
    exact ⟨by rw [hR.out]; rfl, Ext.refl w⟩
set_option maxHeartbeats 4000000 in
set_option maxRecDepth 100000 in
theorem name_c (s : ByteArray) (w : World) : Calls Try.prog 93 #[.string s] w fun e w' => e = .returned (.bool (nameB s)) ∧ Ext w w' := by
  obtain ⟨R, hR⟩ : ∃ R, R = nameB s := ⟨_, rfl⟩
  rw [← hR]
  by_cases h0 : s.size = 0
  · replace hR := hide (hR.trans (name_empty h0))
    have nE : s.toList = [] := by rw [Lib.toList_data]; exact List.eq_nil_of_length_eq_zero ((nm_len s).trans h0)
    replace h0 := hide h0
    go_enter Try.func93, Try.ntmps93
    go_wp2_with fail
    go_returns
    exact ⟨by rw [hR.out]; rfl, Ext.refl w⟩
  have nE : s.toList.isEmpty = false := by rw [nm_empty, decide_eq_false h0]
  have hpos : 0 < s.size := by omega
  clear h0
  by_cases h16 : 16 < s.size
  · replace hR := hide (hR.trans (name_long h16))
    have h16I : (16 : Int) < s.size := by omega
    go_enter Try.func93, Try.ntmps93
    go_wp2_with fail
    go_returns
    exact ⟨by rw [hR.out]; rfl, Ext.refl w⟩
  have h16' : s.size ≤ 16 := by omega
  have h16I : (s.size : Int) ≤ 16 := by omega
  clear h16
  cases hL : letB s[0]
  · have hq := hide (fun w => isLetter_c s[0] w)
    rw [hL] at hq
    replace hR := hide (hR.trans (name_first hpos hL))
    clear hL
    go_enter Try.func93, Try.ntmps93
    go_wp2_with (go_at_call 106; (with_reducible refine seq_gw (hq.out _) ?_); intro g)
    go_returns
    exact ⟨by rw [hR.out]; rfl, g.grown⟩
  have hq := hide (fun w => isLetter_c s[0] w)
  rw [hL] at hq
  replace hL := hide hL
  have ho := hide (fun w => isOperator_c s w)
  have hR1 : Hid (∀ (k : Nat) (hk : k < s.size), letB s[k] = false → digB s[k] = false → R = false) := fun k hk h1 h2 => hR.trans (name_bad hk h1 h2)
  have hR2 : Hid ((∀ (j : Nat) (hj : j < s.size), (letB s[j] || digB s[j]) = true) → R = !opB s) := fun ha => hR.trans (name_end hpos h16' hL.out ha)
  generalize opB s = op at *
  clear hR hL
  go_enter Try.func93, Try.ntmps93
  go_wp2_with (go_at_call 106; (with_reducible refine seq_gw (hq.out _) ?_); intro g)
  clear hq
  go_loopg [19] s.size (fun gh i wr => ∃ (k : Nat), i = .int .i64 k ∧ k + gh = s.size ∧ Hid (∀ (j : Nat) (hj : j < s.size), j < k → (letB s[j] || digB s[j]) = true) ∧ Ext w wr)
  case atStart => exact ⟨0, rfl, by omega, fun j hj h => absurd h (by omega), g.grown⟩
  case round =>
    obtain ⟨k, rfl, hk, hD, hX⟩ := hrel
    clear g
    by_cases hlt : k < s.size
    · have hl := hide (fun w => isLetter_c s[k] w)
      have hd := hide (fun w => isDigit_c s[k] w)
      have hb := hide (hR1.out k hlt)
      have hstep : Hid ((letB s[k] || digB s[k]) = true → ∀ (j : Nat) (hj : j < s.size), j < k + 1 → (letB s[j] || digB s[j]) = true) := fun h j hj hjk => by
        rcases (by omega : j < k ∨ j = k) with h' | rfl
        · exact hD.out j hj h'
        · exact h
      generalize letB s[k] = lb at *
      generalize digB s[k] = db at *
      cases lb
      · cases db
        · replace hb := hide (hb.out rfl rfl)
          clear hstep
          go_wp2_with (first | (go_at_call 106; (with_reducible refine seq_gw (hl.out _) ?_); intro g) | (go_at_call 107; (with_reducible refine seq_gw' (hd.out _) ?_); intro g2))
          go_returns
          exact ⟨by rw [hb.out]; rfl, hX.trans g2.grown⟩
        · replace hstep := hide (hstep.out rfl)
          clear hb
          go_wp2_with (first | (go_at_call 106; (with_reducible refine seq_gw (hl.out _) ?_); intro g) | (go_at_call 107; (with_reducible refine seq_gw' (hd.out _) ?_); intro g2))
          go_roundg (s.size - (k + 1))
          case measure => omega
          case rel => exact ⟨k + 1, by go_num, by omega, hstep, hX.trans g2.grown⟩
      · replace hstep := hide (hstep.out rfl)
        clear hb hd
        go_wp2_with (go_at_call 106; (with_reducible refine seq_gw (hl.out _) ?_); intro g)
        go_roundg (s.size - (k + 1))
        case measure => omega
        case rel => exact ⟨k + 1, by go_num, by omega, hstep, hX.trans g.grown⟩
    · have hk' : k = s.size := by omega
      have hge : (s.size : Int) ≤ k := by omega
      have hR3 := hide (hR2.out fun j hj => hD.out j hj (by omega))
      replace hk' := hide hk'
      clear hlt
      go_wp2_with (go_at_call 108; (with_reducible refine seq_gw (ho.out _) ?_); intro g)
      go_returns
      exact ⟨by rw [hR3.out]; first | rfl | simp, hX.trans g.grown⟩
end Go.Proofs.Ytopgapbipmblbaa
