/-
  A helper of ours: no claim of its own. Layer 7 (schema): which texts are names, on both sides.
-/
import Derived.Test.YtajelkkiijdegaaGreatSchS
import Derived.Test.YtajelkkiijdegaaGreatRows
import Derived.Handy
import Derived.Deep.LoopGhost
import Derived.Lib.IndexBytes
import Derived.WalkSpells
import Derived.Lib.ConvBytes
set_option linter.unusedVariables false
set_option linter.unusedSimpArgs false
namespace Go.Proofs.YtajelkkiijdegaaGreat
open Go.RowKit
attribute [local go_sem] GW.cell GW.frozen In.eq_true In.le_true In.ne In.ne' In.ne_add In.ne_add' In.lt_add Upto.le_true Upto.le_add Upto.lt_add
theorem nm_len (s : ByteArray) : s.data.toList.length = s.size := by rw [Array.length_toList]; rfl
theorem nm_empty (s : ByteArray) : s.toList.isEmpty = decide (s.size = 0) := by
  rw [Lib.toList_data, Bool.eq_iff_iff, List.isEmpty_iff, decide_eq_true_iff, ← List.length_eq_zero_iff, Array.length_toList]
  exact Iff.rfl
theorem nm_at {s : ByteArray} {k : Nat} (h : k < s.size) : s.data.toList[k]? = some s[k] := by
  rw [List.getElem?_eq_getElem (by rw [nm_len]; exact h)]; rfl
theorem name_empty {s : ByteArray} (h : s.size = 0) : nameB s = false := by unfold nameB; rw [h]; rfl
theorem name_long {s : ByteArray} (h : 16 < s.size) : nameB s = false := by
  unfold nameB; rw [decide_eq_false (by omega), Bool.false_and]
theorem name_first {s : ByteArray} (h : 0 < s.size) (h1 : letB s[0] = false) : nameB s = false := by
  have e := nm_at h
  unfold nameB
  rw [List.head?_eq_getElem?, e, Option.any_some, h1, Bool.false_and, Bool.and_false]
theorem name_bad {s : ByteArray} {k : Nat} (h : k < s.size) (h1 : letB s[k] = false) (h2 : digB s[k] = false) : nameB s = false := by
  have hm := List.mem_of_getElem? (nm_at h)
  have : (s.data.toList.all fun c => letB c || digB c) = false := by
    rw [← Bool.not_eq_true, List.all_eq_true]
    intro ha
    have := ha _ hm
    rw [h1, h2] at this
    cases this
  unfold nameB
  rw [this, Bool.false_and, Bool.and_false, Bool.and_false]
theorem name_end {s : ByteArray} (h0 : 0 < s.size) (h16 : s.size ≤ 16) (h1 : letB s[0] = true) (ha : ∀ (j : Nat) (hj : j < s.size), (letB s[j] || digB s[j]) = true) : nameB s = !opB s := by
  have : (s.data.toList.all fun c => letB c || digB c) = true := by
    rw [List.all_eq_true]
    intro c hc
    obtain ⟨j, hj⟩ := List.getElem?_of_mem hc
    have hjs : j < s.size := by rw [← nm_len]; exact (List.getElem?_eq_some_iff.1 hj).1
    rw [nm_at hjs] at hj
    obtain rfl := Option.some.inj hj
    exact ha j hjs
  unfold nameB
  rw [this, List.head?_eq_getElem?, nm_at h0, Option.any_some, h1, decide_eq_true ⟨by omega, h16⟩]
  rfl
theorem letB_true {c : UInt8} : letB c = true ↔ 97 ≤ c.toNat ∧ c.toNat ≤ 122 := by unfold letB; rw [decide_eq_true_iff]
theorem digB_true {c : UInt8} : digB c = true ↔ 48 ≤ c.toNat ∧ c.toNat ≤ 57 := by unfold digB; rw [decide_eq_true_iff]
theorem letB_false {c : UInt8} : letB c = false ↔ c.toNat < 97 ∨ 122 < c.toNat := by rw [← Bool.not_eq_true, letB_true]; omega
theorem digB_false {c : UInt8} : digB c = false ↔ c.toNat < 48 ∨ 57 < c.toNat := by rw [← Bool.not_eq_true, digB_true]; omega
set_option maxHeartbeats 1000000 in
theorem isLetter_c (c : UInt8) (w : World) : Calls Tryz.prog 191 #[.int .u8 c.toNat] w fun e w' => e = .returned (.bool (letB c)) ∧ Ext w w' := by
  obtain ⟨R, hR⟩ : ∃ R, R = letB c := ⟨_, rfl⟩
  rw [← hR]
  by_cases h1 : 97 ≤ c.toNat
  · by_cases h2 : c.toNat ≤ 122
    · replace hR := hide (hR.trans (letB_true.2 ⟨h1, h2⟩))
      go_enter Tryz.func191, Tryz.ntmps191
      go_wp2_with fail
      go_returns
      exact ⟨by rw [hR.out]; first | rfl | (simp; omega), Ext.refl w⟩
    · replace hR := hide (hR.trans (letB_false.2 (.inr (by omega))))
      replace h2 : 122 < c.toNat := by omega
      go_enter Tryz.func191, Tryz.ntmps191
      go_wp2_with fail
      go_returns
      exact ⟨by rw [hR.out]; first | rfl | (simp; omega), Ext.refl w⟩
  · replace hR := hide (hR.trans (letB_false.2 (.inl (by omega))))
    replace h1 : c.toNat < 97 := by omega
    go_enter Tryz.func191, Tryz.ntmps191
    go_wp2_with fail
    go_returns
    exact ⟨by rw [hR.out]; first | rfl | (simp; omega), Ext.refl w⟩
set_option maxHeartbeats 1000000 in
theorem isDigit_c (c : UInt8) (w : World) : Calls Tryz.prog 192 #[.int .u8 c.toNat] w fun e w' => e = .returned (.bool (digB c)) ∧ Ext w w' := by
  obtain ⟨R, hR⟩ : ∃ R, R = digB c := ⟨_, rfl⟩
  rw [← hR]
  by_cases h1 : 48 ≤ c.toNat
  · by_cases h2 : c.toNat ≤ 57
    · replace hR := hide (hR.trans (digB_true.2 ⟨h1, h2⟩))
      go_enter Tryz.func192, Tryz.ntmps192
      go_wp2_with fail
      go_returns
      exact ⟨by rw [hR.out]; first | rfl | (simp; omega), Ext.refl w⟩
    · replace hR := hide (hR.trans (digB_false.2 (.inr (by omega))))
      replace h2 : 57 < c.toNat := by omega
      go_enter Tryz.func192, Tryz.ntmps192
      go_wp2_with fail
      go_returns
      exact ⟨by rw [hR.out]; first | rfl | (simp; omega), Ext.refl w⟩
  · replace hR := hide (hR.trans (digB_false.2 (.inl (by omega))))
    replace h1 : c.toNat < 48 := by omega
    go_enter Tryz.func192, Tryz.ntmps192
    go_wp2_with fail
    go_returns
    exact ⟨by rw [hR.out]; first | rfl | (simp; omega), Ext.refl w⟩
/-- Which of the four words it is, if it is one. -/
theorem op_cases (s : ByteArray) : (s.toList = [97, 110, 100] ∧ opB s = true) ∨ (¬ s.toList = [97, 110, 100] ∧ s.toList = [111, 114] ∧ opB s = true) ∨ (¬ s.toList = [97, 110, 100] ∧ ¬ s.toList = [111, 114] ∧ s.toList = [110, 111, 116] ∧ opB s = true) ∨
    (¬ s.toList = [97, 110, 100] ∧ ¬ s.toList = [111, 114] ∧ ¬ s.toList = [110, 111, 116] ∧ s.toList = [108, 101, 110] ∧ opB s = true) ∨ (¬ s.toList = [97, 110, 100] ∧ ¬ s.toList = [111, 114] ∧ ¬ s.toList = [110, 111, 116] ∧ ¬ s.toList = [108, 101, 110] ∧ opB s = false) := by
  rw [Lib.toList_data]
  unfold opB
  by_cases h1 : s.data.toList = [97, 110, 100]
  · left; exact ⟨h1, by simp [h1]⟩
  by_cases h2 : s.data.toList = [111, 114]
  · right; left; exact ⟨h1, h2, by simp [h2]⟩
  by_cases h3 : s.data.toList = [110, 111, 116]
  · right; right; left; exact ⟨h1, h2, h3, by simp [h3]⟩
  by_cases h4 : s.data.toList = [108, 101, 110]
  · right; right; right; left; exact ⟨h1, h2, h3, h4, by simp [h4]⟩
  · right; right; right; right; exact ⟨h1, h2, h3, h4, by rw [decide_eq_false_iff_not]; simp [h1, h2, h3, h4]⟩
theorem beqT {l m : List UInt8} (h : l = m) : (l == m) = true := by rw [h]; exact beq_self_eq_true m
theorem beqF {l m : List UInt8} (h : ¬ l = m) : (l == m) = false := beq_eq_false_iff_ne.2 h
set_option maxHeartbeats 2000000 in
theorem isOperator_c (s : ByteArray) (w : World) : Calls Tryz.prog 193 #[.string s] w fun e w' => e = .returned (.bool (opB s)) ∧ Ext w w' := by
  obtain ⟨R, hR⟩ : ∃ R, R = opB s := ⟨_, rfl⟩
  rw [← hR]
  rcases op_cases s with ⟨h1, h⟩ | ⟨h1, h2, h⟩ | ⟨h1, h2, h3, h⟩ | ⟨h1, h2, h3, h4, h⟩ | ⟨h1, h2, h3, h4, h⟩
  · replace hR := hide (hR.trans h)
    replace h1 := beqT h1
    clear h
    go_enter Tryz.func193, Tryz.ntmps193
    go_wp2_with fail
    go_returns
    exact ⟨by rw [hR.out]; rfl, Ext.refl w⟩
  · replace hR := hide (hR.trans h)
    replace h1 := beqF h1
    replace h2 := beqT h2
    clear h
    go_enter Tryz.func193, Tryz.ntmps193
    go_wp2_with fail
    go_returns
    exact ⟨by rw [hR.out]; rfl, Ext.refl w⟩
  · replace hR := hide (hR.trans h)
    replace h1 := beqF h1
    replace h2 := beqF h2
    replace h3 := beqT h3
    clear h
    go_enter Tryz.func193, Tryz.ntmps193
    go_wp2_with fail
    go_returns
    exact ⟨by rw [hR.out]; rfl, Ext.refl w⟩
  · replace hR := hide (hR.trans h)
    replace h1 := beqF h1
    replace h2 := beqF h2
    replace h3 := beqF h3
    replace h4 := beqT h4
    clear h
    go_enter Tryz.func193, Tryz.ntmps193
    go_wp2_with fail
    go_returns
    exact ⟨by rw [hR.out]; rfl, Ext.refl w⟩
  · replace hR := hide (hR.trans h)
    replace h1 := beqF h1
    replace h2 := beqF h2
    replace h3 := beqF h3
    replace h4 := beqF h4
    clear h
    go_enter Tryz.func193, Tryz.ntmps193
    go_wp2_with fail
    go_returns
    exact ⟨by rw [hR.out]; rfl, Ext.refl w⟩
set_option maxHeartbeats 4000000 in
set_option maxRecDepth 100000 in
theorem name_c (s : ByteArray) (w : World) : Calls Tryz.prog 139 #[.string s] w fun e w' => e = .returned (.bool (nameB s)) ∧ Ext w w' := by
  obtain ⟨R, hR⟩ : ∃ R, R = nameB s := ⟨_, rfl⟩
  rw [← hR]
  by_cases h0 : s.size = 0
  · replace hR := hide (hR.trans (name_empty h0))
    have nE : s.toList = [] := by rw [Lib.toList_data]; exact List.eq_nil_of_length_eq_zero ((nm_len s).trans h0)
    replace h0 := hide h0
    go_enter Tryz.func139, Tryz.ntmps139
    go_wp2_with fail
    go_returns
    exact ⟨by rw [hR.out]; rfl, Ext.refl w⟩
  have nE : s.toList.isEmpty = false := by rw [nm_empty, decide_eq_false h0]
  have hpos : 0 < s.size := by omega
  clear h0
  by_cases h16 : 16 < s.size
  · replace hR := hide (hR.trans (name_long h16))
    have h16I : (16 : Int) < s.size := by omega
    go_enter Tryz.func139, Tryz.ntmps139
    go_wp2_with fail
    go_returns
    exact ⟨by rw [hR.out]; rfl, Ext.refl w⟩
  have h16' : s.size ≤ 16 := by omega
  have h16I : (s.size : Int) ≤ 16 := by omega
  clear h16
  cases hL : letB s[0]
  · have hq := hide (fun w => isLetter_c s[0] w)
    rw [hL] at hq
    replace hR := hide (hR.trans (name_first hpos hL))
    clear hL
    go_enter Tryz.func139, Tryz.ntmps139
    go_wp2_with (go_at_call 191; (with_reducible refine seq_gw (hq.out _) ?_); intro g)
    go_returns
    exact ⟨by rw [hR.out]; rfl, g.grown⟩
  have hq := hide (fun w => isLetter_c s[0] w)
  rw [hL] at hq
  replace hL := hide hL
  have ho := hide (fun w => isOperator_c s w)
  have hR1 : Hid (∀ (k : Nat) (hk : k < s.size), letB s[k] = false → digB s[k] = false → R = false) := fun k hk h1 h2 => hR.trans (name_bad hk h1 h2)
  have hR2 : Hid ((∀ (j : Nat) (hj : j < s.size), (letB s[j] || digB s[j]) = true) → R = !opB s) := fun ha => hR.trans (name_end hpos h16' hL.out ha)
  generalize opB s = op at *
  clear hR hL
  go_enter Tryz.func139, Tryz.ntmps139
  go_wp2_with (go_at_call 191; (with_reducible refine seq_gw (hq.out _) ?_); intro g)
  clear hq
  go_loopg [19] s.size (fun gh i wr => ∃ (k : Nat), i = .int .i64 k ∧ k + gh = s.size ∧ Hid (∀ (j : Nat) (hj : j < s.size), j < k → (letB s[j] || digB s[j]) = true) ∧ Ext w wr)
  case atStart => exact ⟨0, rfl, by omega, fun j hj h => absurd h (by omega), g.grown⟩
  case round =>
    obtain ⟨k, rfl, hk, hD, hX⟩ := hrel
    clear g
    by_cases hlt : k < s.size
    · have hl := hide (fun w => isLetter_c s[k] w)
      have hd := hide (fun w => isDigit_c s[k] w)
      have hb := hide (hR1.out k hlt)
      have hstep : Hid ((letB s[k] || digB s[k]) = true → ∀ (j : Nat) (hj : j < s.size), j < k + 1 → (letB s[j] || digB s[j]) = true) := fun h j hj hjk => by
        rcases (by omega : j < k ∨ j = k) with h' | rfl
        · exact hD.out j hj h'
        · exact h
      generalize letB s[k] = lb at *
      generalize digB s[k] = db at *
      cases lb
      · cases db
        · replace hb := hide (hb.out rfl rfl)
          clear hstep
          go_wp2_with (first | (go_at_call 191; (with_reducible refine seq_gw (hl.out _) ?_); intro g) | (go_at_call 192; (with_reducible refine seq_gw' (hd.out _) ?_); intro g2))
          go_returns
          exact ⟨by rw [hb.out]; rfl, hX.trans g2.grown⟩
        · replace hstep := hide (hstep.out rfl)
          clear hb
          go_wp2_with (first | (go_at_call 191; (with_reducible refine seq_gw (hl.out _) ?_); intro g) | (go_at_call 192; (with_reducible refine seq_gw' (hd.out _) ?_); intro g2))
          go_roundg (s.size - (k + 1))
          case measure => omega
          case rel => exact ⟨k + 1, by go_num, by omega, hstep, hX.trans g2.grown⟩
      · replace hstep := hide (hstep.out rfl)
        clear hb hd
        go_wp2_with (go_at_call 191; (with_reducible refine seq_gw (hl.out _) ?_); intro g)
        go_roundg (s.size - (k + 1))
        case measure => omega
        case rel => exact ⟨k + 1, by go_num, by omega, hstep, hX.trans g.grown⟩
    · have hk' : k = s.size := by omega
      have hge : (s.size : Int) ≤ k := by omega
      have hR3 := hide (hR2.out fun j hj => hD.out j hj (by omega))
      replace hk' := hide hk'
      clear hlt
      go_wp2_with (go_at_call 193; (with_reducible refine seq_gw (ho.out _) ?_); intro g)
      go_returns
      exact ⟨by rw [hR3.out]; first | rfl | simp, hX.trans g.grown⟩
set_option maxHeartbeats 4000000 in
set_option maxRecDepth 100000 in
theorem refName_c (s : ByteArray) (w : World) : Calls Tryz.prog 83 #[.string s] w fun e w' => e = .returned (.bool (nameB s)) ∧ Ext w w' := by
  obtain ⟨R, hR⟩ : ∃ R, R = nameB s := ⟨_, rfl⟩
  rw [← hR]
  by_cases h0 : s.size = 0
  · replace hR := hide (hR.trans (name_empty h0))
    have h0I : (s.size : Int) = 0 := by omega
    replace h0 := hide h0
    go_enter Tryz.func83, Tryz.ntmps83
    go_wp2_with fail
    go_returns
    exact ⟨by rw [hR.out]; rfl, Ext.refl w⟩
  have hpos : 0 < s.size := by omega
  have hposI : ((s.size : Int) == 0) = false := by rw [beq_eq_false_iff_ne]; omega
  clear h0
  by_cases h16 : 16 < s.size
  · replace hR := hide (hR.trans (name_long h16))
    have h16I : (16 : Int) < s.size := by omega
    go_enter Tryz.func83, Tryz.ntmps83
    go_wp2_with fail
    go_returns
    exact ⟨by rw [hR.out]; rfl, Ext.refl w⟩
  have h16' : s.size ≤ 16 := by omega
  have h16I : (s.size : Int) ≤ 16 := by omega
  clear h16
  have hop : opB s = true → nameB s = false := fun h => by unfold nameB; rw [h]; simp
  rcases op_cases s with ⟨h1, h⟩ | ⟨h1, h2, h⟩ | ⟨h1, h2, h3, h⟩ | ⟨h1, h2, h3, h4, h⟩ | ⟨h1, h2, h3, h4, h⟩
  · replace hR := hide (hR.trans (hop h))
    replace h1 := beqT h1
    clear h hop
    go_enter Tryz.func83, Tryz.ntmps83
    go_wp2_with fail
    go_returns
    exact ⟨by rw [hR.out]; rfl, Ext.refl w⟩
  · replace hR := hide (hR.trans (hop h))
    replace h1 := beqF h1
    replace h2 := beqT h2
    clear h hop
    go_enter Tryz.func83, Tryz.ntmps83
    go_wp2_with fail
    go_returns
    exact ⟨by rw [hR.out]; rfl, Ext.refl w⟩
  · replace hR := hide (hR.trans (hop h))
    replace h1 := beqF h1
    replace h2 := beqF h2
    replace h3 := beqT h3
    clear h hop
    go_enter Tryz.func83, Tryz.ntmps83
    go_wp2_with fail
    go_returns
    exact ⟨by rw [hR.out]; rfl, Ext.refl w⟩
  · replace hR := hide (hR.trans (hop h))
    replace h1 := beqF h1
    replace h2 := beqF h2
    replace h3 := beqF h3
    replace h4 := beqT h4
    clear h hop
    go_enter Tryz.func83, Tryz.ntmps83
    go_wp2_with fail
    go_returns
    exact ⟨by rw [hR.out]; rfl, Ext.refl w⟩
  have hR0 : Hid (letB s[0] = false → R = false) := fun h => hR.trans (name_first hpos h)
  have hR1 : Hid (∀ (k : Nat) (hk : k < s.size), letB s[k] = false → digB s[k] = false → R = false) := fun k hk h1 h2 => hR.trans (name_bad hk h1 h2)
  have hR2 : Hid (letB s[0] = true → (∀ (j : Nat) (hj : j < s.size), (letB s[j] || digB s[j]) = true) → R = true) := fun hL ha => by rw [hR, name_end hpos h16' hL ha, h]; rfl
  replace h1 := beqF h1
  replace h2 := beqF h2
  replace h3 := beqF h3
  replace h4 := beqF h4
  clear hR h hop
  go_enter Tryz.func83, Tryz.ntmps83
  go_wp2_with fail
  clear h1 h2 h3 h4
  go_loopg [3] s.size (fun gh i wr => ∃ (k : Nat), i = .int .i64 k ∧ k + gh = s.size ∧ Hid (∀ (j : Nat) (hj : j < s.size), j < k → (letB s[j] || digB s[j]) = true) ∧ Hid (0 < k → letB s[0] = true) ∧ Ext w wr)
  case atStart => exact ⟨0, rfl, by omega, fun j hj h => absurd h (by omega), fun h => absurd h (by omega), Ext.refl w⟩
  case round =>
    obtain ⟨k, rfl, hk, hD, hF, hX⟩ := hrel
    by_cases hlt : k < s.size
    · have hstep : Hid ((letB s[k] || digB s[k]) = true → ∀ (j : Nat) (hj : j < s.size), j < k + 1 → (letB s[j] || digB s[j]) = true) := fun h j hj hjk => by
        rcases (by omega : j < k ∨ j = k) with h' | rfl
        · exact hD.out j hj h'
        · exact h
      have hb := hide (hR1.out k hlt)
      by_cases c1 : s[k].toNat < 48
      · replace hb := hide (hb.out (letB_false.2 (.inl (by omega))) (digB_false.2 (.inl c1)))
        clear hstep
        go_wp2_with fail
        go_returns
        exact ⟨by rw [hb.out]; rfl, hX⟩
      · by_cases c2 : s[k].toNat ≤ 57
        · have c1' : 48 ≤ s[k].toNat := by omega
          clear c1
          rcases Nat.eq_zero_or_pos k with rfl | hk0
          · have hb2 := hide (hR0.out (letB_false.2 (.inl (by omega))))
            clear hstep hb
            go_wp2_with fail
            go_returns
            exact ⟨by rw [hb2.out]; rfl, hX⟩
          · replace hstep := hide (hstep.out (by rw [digB_true.2 ⟨c1', c2⟩, Bool.or_true]))
            have hk0I : ((k : Int) == 0) = false := by rw [beq_eq_false_iff_ne]; omega
            have hF' : Hid (0 < k + 1 → letB s[0] = true) := fun _ => hF.out hk0
            clear hb hF
            go_wp2_with fail
            go_roundg (s.size - (k + 1))
            case measure => omega
            case rel => exact ⟨k + 1, by go_num, by omega, hstep, hF', hX⟩
        · have c2' : 57 < s[k].toNat := by omega
          have c1' : 48 ≤ s[k].toNat := by omega
          clear c1 c2
          by_cases c3 : s[k].toNat < 97
          · replace hb := hide (hb.out (letB_false.2 (.inl c3)) (digB_false.2 (.inr c2')))
            clear hstep
            go_wp2_with fail
            go_returns
            exact ⟨by rw [hb.out]; rfl, hX⟩
          · have c3' : 97 ≤ s[k].toNat := by omega
            clear c3
            by_cases c4 : 122 < s[k].toNat
            · replace hb := hide (hb.out (letB_false.2 (.inr c4)) (digB_false.2 (.inr c2')))
              clear hstep
              go_wp2_with fail
              go_returns
              exact ⟨by rw [hb.out]; rfl, hX⟩
            · have c4' : s[k].toNat ≤ 122 := by omega
              clear c4
              have hlk := letB_true.2 ⟨c3', c4'⟩
              replace hstep := hide (hstep.out (by rw [hlk, Bool.true_or]))
              have hF' : Hid (0 < k + 1 → letB s[0] = true) := fun _ => by
                rcases Nat.eq_zero_or_pos k with rfl | hk0
                · exact hlk
                · exact hF.out hk0
              clear hb hF hlk
              go_wp2_with fail
              go_roundg (s.size - (k + 1))
              case measure => omega
              case rel => exact ⟨k + 1, by go_num, by omega, hstep, hF', hX⟩
    · have hk' : k = s.size := by omega
      have hge : (s.size : Int) ≤ k := by omega
      have hR3 := hide (hR2.out (hF.out (by omega)) fun j hj => hD.out j hj (by omega))
      replace hk' := hide hk'
      clear hlt hF
      go_wp2_with fail
      go_returns
      exact ⟨by rw [hR3.out]; rfl, hX⟩
end Go.Proofs.YtajelkkiijdegaaGreat
