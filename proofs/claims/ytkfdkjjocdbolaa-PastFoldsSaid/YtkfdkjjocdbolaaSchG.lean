/-
  A helper of ours: no claim of its own. Layer 7 (schema): schemas one behind the other, on both sides.
-/
import Derived.Test.YtkfdkjjocdbolaaSchS
import Derived.Test.YtkfdkjjocdbolaaRows
import Derived.Handy
import Derived.Deep.LoopGhost
import Derived.Lib.IndexBytes
import Derived.WalkSpells
import Derived.Lib.ConvBytes
import Derived.Test.YtkfdkjjocdbolaaMem
import Derived.RangeFuncNested
import Derived.RangeFuncLeaves
import Derived.OwnWalkIn
import Derived.TacticsInMore
import Derived.LoopNIn
import Derived.LoopIn
import Derived.Shelf.RegionOpen
import Derived.Test.YtkfdkjjocdbolaaRowA
import Derived.Test.YtkfdkjjocdbolaaValQ
import Derived.Test.YtkfdkjjocdbolaaIdx
import Derived.Test.YtkfdkjjocdbolaaRowB
import Derived.Lib.AppendZerosOnto
import Derived.Lib.LazyBuf
import Derived.WalkLawsBesides
set_option linter.unusedVariables false
set_option linter.unusedSimpArgs false
namespace Go.Proofs.Ytkfdkjjocdbolaa
open Go.RowKit
attribute [local go_sem] GW.cell GW.frozen In.eq_true In.le_true In.ne In.ne' In.ne_add In.ne_add' In.lt_add Upto.le_true Upto.le_add Upto.lt_add
theorem nm_len (s : ByteArray) : s.data.toList.length = s.size := by rw [Array.length_toList]; rfl
theorem nm_empty (s : ByteArray) : s.toList.isEmpty = decide (s.size = 0) := by
  rw [Lib.toList_data, Bool.eq_iff_iff, List.isEmpty_iff, decide_eq_true_iff, ← List.length_eq_zero_iff, Array.length_toList]
  exact Iff.rfl
theorem nm_at {s : ByteArray} {k : Nat} (h : k < s.size) : s.data.toList[k]? = some s[k] := by
  rw [List.getElem?_eq_getElem (by rw [nm_len]; exact h)]; rfl
theorem name_empty {s : ByteArray} (h : s.size = 0) : nameB s = false := by unfold nameB; rw [h]; rfl
theorem name_long {s : ByteArray} (h : 16 < s.size) : nameB s = false := by
  unfold nameB; rw [decide_eq_false (by omega), Bool.false_and]
theorem name_first {s : ByteArray} (h : 0 < s.size) (h1 : letB s[0] = false) : nameB s = false := by
  have e := nm_at h
  unfold nameB
  rw [List.head?_eq_getElem?, e, Option.any_some, h1, Bool.false_and, Bool.and_false]
theorem name_bad {s : ByteArray} {k : Nat} (h : k < s.size) (h1 : letB s[k] = false) (h2 : digB s[k] = false) : nameB s = false := by
  have hm := List.mem_of_getElem? (nm_at h)
  have : (s.data.toList.all fun c => letB c || digB c) = false := by
    rw [← Bool.not_eq_true, List.all_eq_true]
    intro ha
    have := ha _ hm
    rw [h1, h2] at this
    cases this
  unfold nameB
  rw [this, Bool.false_and, Bool.and_false, Bool.and_false]
theorem name_end {s : ByteArray} (h0 : 0 < s.size) (h16 : s.size ≤ 16) (h1 : letB s[0] = true) (ha : ∀ (j : Nat) (hj : j < s.size), (letB s[j] || digB s[j]) = true) : nameB s = !opB s := by
  have : (s.data.toList.all fun c => letB c || digB c) = true := by
    rw [List.all_eq_true]
    intro c hc
    obtain ⟨j, hj⟩ := List.getElem?_of_mem hc
    have hjs : j < s.size := by rw [← nm_len]; exact (List.getElem?_eq_some_iff.1 hj).1
    rw [nm_at hjs] at hj
    obtain rfl := Option.some.inj hj
    exact ha j hjs
  unfold nameB
  rw [this, List.head?_eq_getElem?, nm_at h0, Option.any_some, h1, decide_eq_true ⟨by omega, h16⟩]
  rfl
theorem letB_true {c : UInt8} : letB c = true ↔ 97 ≤ c.toNat ∧ c.toNat ≤ 122 := by unfold letB; rw [decide_eq_true_iff]
theorem digB_true {c : UInt8} : digB c = true ↔ 48 ≤ c.toNat ∧ c.toNat ≤ 57 := by unfold digB; rw [decide_eq_true_iff]
theorem letB_false {c : UInt8} : letB c = false ↔ c.toNat < 97 ∨ 122 < c.toNat := by rw [← Bool.not_eq_true, letB_true]; omega
theorem digB_false {c : UInt8} : digB c = false ↔ c.toNat < 48 ∨ 57 < c.toNat := by rw [← Bool.not_eq_true, digB_true]; omega
set_option maxHeartbeats 1000000 in
theorem isLetter_c (c : UInt8) (w : World) : Calls Try.prog 71 #[.int .u8 c.toNat] w fun e w' => e = .returned (.bool (letB c)) ∧ Ext w w' := by
  obtain ⟨R, hR⟩ : ∃ R, R = letB c := ⟨_, rfl⟩
  rw [← hR]
  by_cases h1 : 97 ≤ c.toNat
  · by_cases h2 : c.toNat ≤ 122
    · replace hR := hide (hR.trans (letB_true.2 ⟨h1, h2⟩))
      go_enter Try.func71, Try.ntmps71
      go_wp2_with fail
      go_returns
      exact ⟨by rw [hR.out]; first | rfl | (simp; omega), Ext.refl w⟩
    · replace hR := hide (hR.trans (letB_false.2 (.inr (by omega))))
      replace h2 : 122 < c.toNat := by omega
      go_enter Try.func71, Try.ntmps71
      go_wp2_with fail
      go_returns
      exact ⟨by rw [hR.out]; first | rfl | (simp; omega), Ext.refl w⟩
  · replace hR := hide (hR.trans (letB_false.2 (.inl (by omega))))
    replace h1 : c.toNat < 97 := by omega
    go_enter Try.func71, Try.ntmps71
    go_wp2_with fail
    go_returns
    exact ⟨by rw [hR.out]; first | rfl | (simp; omega), Ext.refl w⟩
set_option maxHeartbeats 1000000 in
theorem isDigit_c (c : UInt8) (w : World) : Calls Try.prog 72 #[.int .u8 c.toNat] w fun e w' => e = .returned (.bool (digB c)) ∧ Ext w w' := by
  obtain ⟨R, hR⟩ : ∃ R, R = digB c := ⟨_, rfl⟩
  rw [← hR]
  by_cases h1 : 48 ≤ c.toNat
  · by_cases h2 : c.toNat ≤ 57
    · replace hR := hide (hR.trans (digB_true.2 ⟨h1, h2⟩))
      go_enter Try.func72, Try.ntmps72
      go_wp2_with fail
      go_returns
      exact ⟨by rw [hR.out]; first | rfl | (simp; omega), Ext.refl w⟩
    · replace hR := hide (hR.trans (digB_false.2 (.inr (by omega))))
      replace h2 : 57 < c.toNat := by omega
      go_enter Try.func72, Try.ntmps72
      go_wp2_with fail
      go_returns
      exact ⟨by rw [hR.out]; first | rfl | (simp; omega), Ext.refl w⟩
  · replace hR := hide (hR.trans (digB_false.2 (.inl (by omega))))
    replace h1 : c.toNat < 48 := by omega
    go_enter Try.func72, Try.ntmps72
    go_wp2_with fail
    go_returns
    exact ⟨by rw [hR.out]; first | rfl | (simp; omega), Ext.refl w⟩
/-- Which of the four words it is, if it is one. -/
theorem op_cases (s : ByteArray) : (s.toList = [97, 110, 100] ∧ opB s = true) ∨ (¬ s.toList = [97, 110, 100] ∧ s.toList = [111, 114] ∧ opB s = true) ∨ (¬ s.toList = [97, 110, 100] ∧ ¬ s.toList = [111, 114] ∧ s.toList = [110, 111, 116] ∧ opB s = true) ∨
    (¬ s.toList = [97, 110, 100] ∧ ¬ s.toList = [111, 114] ∧ ¬ s.toList = [110, 111, 116] ∧ s.toList = [108, 101, 110] ∧ opB s = true) ∨ (¬ s.toList = [97, 110, 100] ∧ ¬ s.toList = [111, 114] ∧ ¬ s.toList = [110, 111, 116] ∧ ¬ s.toList = [108, 101, 110] ∧ opB s = false) := by
  rw [Lib.toList_data]
  unfold opB
  by_cases h1 : s.data.toList = [97, 110, 100]
  · left; exact ⟨h1, by simp [h1]⟩
  by_cases h2 : s.data.toList = [111, 114]
  · right; left; exact ⟨h1, h2, by simp [h2]⟩
  by_cases h3 : s.data.toList = [110, 111, 116]
  · right; right; left; exact ⟨h1, h2, h3, by simp [h3]⟩
  by_cases h4 : s.data.toList = [108, 101, 110]
  · right; right; right; left; exact ⟨h1, h2, h3, h4, by simp [h4]⟩
  · right; right; right; right; exact ⟨h1, h2, h3, h4, by rw [decide_eq_false_iff_not]; simp [h1, h2, h3, h4]⟩
theorem beqT {l m : List UInt8} (h : l = m) : (l == m) = true := by rw [h]; exact beq_self_eq_true m
theorem beqF {l m : List UInt8} (h : ¬ l = m) : (l == m) = false := beq_eq_false_iff_ne.2 h
set_option maxHeartbeats 2000000 in
theorem isOperator_c (s : ByteArray) (w : World) : Calls Try.prog 73 #[.string s] w fun e w' => e = .returned (.bool (opB s)) ∧ Ext w w' := by
  obtain ⟨R, hR⟩ : ∃ R, R = opB s := ⟨_, rfl⟩
  rw [← hR]
  rcases op_cases s with ⟨h1, h⟩ | ⟨h1, h2, h⟩ | ⟨h1, h2, h3, h⟩ | ⟨h1, h2, h3, h4, h⟩ | ⟨h1, h2, h3, h4, h⟩
  · replace hR := hide (hR.trans h)
    replace h1 := beqT h1
    clear h
    go_enter Try.func73, Try.ntmps73
    go_wp2_with fail
    go_returns
    exact ⟨by rw [hR.out]; rfl, Ext.refl w⟩
  · replace hR := hide (hR.trans h)
    replace h1 := beqF h1
    replace h2 := beqT h2
    clear h
    go_enter Try.func73, Try.ntmps73
    go_wp2_with fail
    go_returns
    exact ⟨by rw [hR.out]; rfl, Ext.refl w⟩
  · replace hR := hide (hR.trans h)
    replace h1 := beqF h1
    replace h2 := beqF h2
    replace h3 := beqT h3
    clear h
    go_enter Try.func73, Try.ntmps73
    go_wp2_with fail
    go_returns
    exact ⟨by rw [hR.out]; rfl, Ext.refl w⟩
  · replace hR := hide (hR.trans h)
    replace h1 := beqF h1
    replace h2 := beqF h2
    replace h3 := beqF h3
    replace h4 := beqT h4
    clear h
    go_enter Try.func73, Try.ntmps73
    go_wp2_with fail
    go_returns
    exact ⟨by rw [hR.out]; rfl, Ext.refl w⟩
  · replace hR := hide (hR.trans h)
    replace h1 := beqF h1
    replace h2 := beqF h2
    replace h3 := beqF h3
    replace h4 := beqF h4
    clear h
    go_enter Try.func73, Try.ntmps73
    go_wp2_with fail
    go_returns
    exact ⟨by rw [hR.out]; rfl, Ext.refl w⟩
set_option maxHeartbeats 4000000 in
set_option maxRecDepth 100000 in
theorem name_c (s : ByteArray) (w : World) : Calls Try.prog 55 #[.string s] w fun e w' => e = .returned (.bool (nameB s)) ∧ Ext w w' := by
  obtain ⟨R, hR⟩ : ∃ R, R = nameB s := ⟨_, rfl⟩
  rw [← hR]
  by_cases h0 : s.size = 0
  · replace hR := hide (hR.trans (name_empty h0))
    have nE : s.toList = [] := by rw [Lib.toList_data]; exact List.eq_nil_of_length_eq_zero ((nm_len s).trans h0)
    replace h0 := hide h0
    go_enter Try.func55, Try.ntmps55
    go_wp2_with fail
    go_returns
    exact ⟨by rw [hR.out]; rfl, Ext.refl w⟩
  have nE : s.toList.isEmpty = false := by rw [nm_empty, decide_eq_false h0]
  have hpos : 0 < s.size := by omega
  clear h0
  by_cases h16 : 16 < s.size
  · replace hR := hide (hR.trans (name_long h16))
    have h16I : (16 : Int) < s.size := by omega
    go_enter Try.func55, Try.ntmps55
    go_wp2_with fail
    go_returns
    exact ⟨by rw [hR.out]; rfl, Ext.refl w⟩
  have h16' : s.size ≤ 16 := by omega
  have h16I : (s.size : Int) ≤ 16 := by omega
  clear h16
  cases hL : letB s[0]
  · have hq := hide (fun w => isLetter_c s[0] w)
    rw [hL] at hq
    replace hR := hide (hR.trans (name_first hpos hL))
    clear hL
    go_enter Try.func55, Try.ntmps55
    go_wp2_with (go_at_call 71; (with_reducible refine seq_gw (hq.out _) ?_); intro g)
    go_returns
    exact ⟨by rw [hR.out]; rfl, g.grown⟩
  have hq := hide (fun w => isLetter_c s[0] w)
  rw [hL] at hq
  replace hL := hide hL
  have ho := hide (fun w => isOperator_c s w)
  have hR1 : Hid (∀ (k : Nat) (hk : k < s.size), letB s[k] = false → digB s[k] = false → R = false) := fun k hk h1 h2 => hR.trans (name_bad hk h1 h2)
  have hR2 : Hid ((∀ (j : Nat) (hj : j < s.size), (letB s[j] || digB s[j]) = true) → R = !opB s) := fun ha => hR.trans (name_end hpos h16' hL.out ha)
  generalize opB s = op at *
  clear hR hL
  go_enter Try.func55, Try.ntmps55
  go_wp2_with (go_at_call 71; (with_reducible refine seq_gw (hq.out _) ?_); intro g)
  clear hq
  go_loopg [19] s.size (fun gh i wr => ∃ (k : Nat), i = .int .i64 k ∧ k + gh = s.size ∧ Hid (∀ (j : Nat) (hj : j < s.size), j < k → (letB s[j] || digB s[j]) = true) ∧ Ext w wr)
  case atStart => exact ⟨0, rfl, by omega, fun j hj h => absurd h (by omega), g.grown⟩
  case round =>
    obtain ⟨k, rfl, hk, hD, hX⟩ := hrel
    clear g
    by_cases hlt : k < s.size
    · have hl := hide (fun w => isLetter_c s[k] w)
      have hd := hide (fun w => isDigit_c s[k] w)
      have hb := hide (hR1.out k hlt)
      have hstep : Hid ((letB s[k] || digB s[k]) = true → ∀ (j : Nat) (hj : j < s.size), j < k + 1 → (letB s[j] || digB s[j]) = true) := fun h j hj hjk => by
        rcases (by omega : j < k ∨ j = k) with h' | rfl
        · exact hD.out j hj h'
        · exact h
      generalize letB s[k] = lb at *
      generalize digB s[k] = db at *
      cases lb
      · cases db
        · replace hb := hide (hb.out rfl rfl)
          clear hstep
          go_wp2_with (first | (go_at_call 71; (with_reducible refine seq_gw (hl.out _) ?_); intro g) | (go_at_call 72; (with_reducible refine seq_gw' (hd.out _) ?_); intro g2))
          go_returns
          exact ⟨by rw [hb.out]; rfl, hX.trans g2.grown⟩
        · replace hstep := hide (hstep.out rfl)
          clear hb
          go_wp2_with (first | (go_at_call 71; (with_reducible refine seq_gw (hl.out _) ?_); intro g) | (go_at_call 72; (with_reducible refine seq_gw' (hd.out _) ?_); intro g2))
          go_roundg (s.size - (k + 1))
          case measure => omega
          case rel => exact ⟨k + 1, by go_num, by omega, hstep, hX.trans g2.grown⟩
      · replace hstep := hide (hstep.out rfl)
        clear hb hd
        go_wp2_with (go_at_call 71; (with_reducible refine seq_gw (hl.out _) ?_); intro g)
        go_roundg (s.size - (k + 1))
        case measure => omega
        case rel => exact ⟨k + 1, by go_num, by omega, hstep, hX.trans g.grown⟩
    · have hk' : k = s.size := by omega
      have hge : (s.size : Int) ≤ k := by omega
      have hR3 := hide (hR2.out fun j hj => hD.out j hj (by omega))
      replace hk' := hide hk'
      clear hlt
      go_wp2_with (go_at_call 73; (with_reducible refine seq_gw (ho.out _) ?_); intro g)
      go_returns
      exact ⟨by rw [hR3.out]; first | rfl | simp, hX.trans g.grown⟩
set_option maxHeartbeats 4000000 in
set_option maxRecDepth 100000 in
theorem refName_c (s : ByteArray) (w : World) : Calls Try.prog 33 #[.string s] w fun e w' => e = .returned (.bool (nameB s)) ∧ Ext w w' := by
  obtain ⟨R, hR⟩ : ∃ R, R = nameB s := ⟨_, rfl⟩
  rw [← hR]
  by_cases h0 : s.size = 0
  · replace hR := hide (hR.trans (name_empty h0))
    have h0I : (s.size : Int) = 0 := by omega
    replace h0 := hide h0
    go_enter Try.func33, Try.ntmps33
    go_wp2_with fail
    go_returns
    exact ⟨by rw [hR.out]; rfl, Ext.refl w⟩
  have hpos : 0 < s.size := by omega
  have hposI : ((s.size : Int) == 0) = false := by rw [beq_eq_false_iff_ne]; omega
  clear h0
  by_cases h16 : 16 < s.size
  · replace hR := hide (hR.trans (name_long h16))
    have h16I : (16 : Int) < s.size := by omega
    go_enter Try.func33, Try.ntmps33
    go_wp2_with fail
    go_returns
    exact ⟨by rw [hR.out]; rfl, Ext.refl w⟩
  have h16' : s.size ≤ 16 := by omega
  have h16I : (s.size : Int) ≤ 16 := by omega
  clear h16
  have hop : opB s = true → nameB s = false := fun h => by unfold nameB; rw [h]; simp
  rcases op_cases s with ⟨h1, h⟩ | ⟨h1, h2, h⟩ | ⟨h1, h2, h3, h⟩ | ⟨h1, h2, h3, h4, h⟩ | ⟨h1, h2, h3, h4, h⟩
  · replace hR := hide (hR.trans (hop h))
    replace h1 := beqT h1
    clear h hop
    go_enter Try.func33, Try.ntmps33
    go_wp2_with fail
    go_returns
    exact ⟨by rw [hR.out]; rfl, Ext.refl w⟩
  · replace hR := hide (hR.trans (hop h))
    replace h1 := beqF h1
    replace h2 := beqT h2
    clear h hop
    go_enter Try.func33, Try.ntmps33
    go_wp2_with fail
    go_returns
    exact ⟨by rw [hR.out]; rfl, Ext.refl w⟩
  · replace hR := hide (hR.trans (hop h))
    replace h1 := beqF h1
    replace h2 := beqF h2
    replace h3 := beqT h3
    clear h hop
    go_enter Try.func33, Try.ntmps33
    go_wp2_with fail
    go_returns
    exact ⟨by rw [hR.out]; rfl, Ext.refl w⟩
  · replace hR := hide (hR.trans (hop h))
    replace h1 := beqF h1
    replace h2 := beqF h2
    replace h3 := beqF h3
    replace h4 := beqT h4
    clear h hop
    go_enter Try.func33, Try.ntmps33
    go_wp2_with fail
    go_returns
    exact ⟨by rw [hR.out]; rfl, Ext.refl w⟩
  have hR0 : Hid (letB s[0] = false → R = false) := fun h => hR.trans (name_first hpos h)
  have hR1 : Hid (∀ (k : Nat) (hk : k < s.size), letB s[k] = false → digB s[k] = false → R = false) := fun k hk h1 h2 => hR.trans (name_bad hk h1 h2)
  have hR2 : Hid (letB s[0] = true → (∀ (j : Nat) (hj : j < s.size), (letB s[j] || digB s[j]) = true) → R = true) := fun hL ha => by rw [hR, name_end hpos h16' hL ha, h]; rfl
  replace h1 := beqF h1
  replace h2 := beqF h2
  replace h3 := beqF h3
  replace h4 := beqF h4
  clear hR h hop
  go_enter Try.func33, Try.ntmps33
  go_wp2_with fail
  clear h1 h2 h3 h4
  go_loopg [3] s.size (fun gh i wr => ∃ (k : Nat), i = .int .i64 k ∧ k + gh = s.size ∧ Hid (∀ (j : Nat) (hj : j < s.size), j < k → (letB s[j] || digB s[j]) = true) ∧ Hid (0 < k → letB s[0] = true) ∧ Ext w wr)
  case atStart => exact ⟨0, rfl, by omega, fun j hj h => absurd h (by omega), fun h => absurd h (by omega), Ext.refl w⟩
  case round =>
    obtain ⟨k, rfl, hk, hD, hF, hX⟩ := hrel
    by_cases hlt : k < s.size
    · have hstep : Hid ((letB s[k] || digB s[k]) = true → ∀ (j : Nat) (hj : j < s.size), j < k + 1 → (letB s[j] || digB s[j]) = true) := fun h j hj hjk => by
        rcases (by omega : j < k ∨ j = k) with h' | rfl
        · exact hD.out j hj h'
        · exact h
      have hb := hide (hR1.out k hlt)
      by_cases c1 : s[k].toNat < 48
      · replace hb := hide (hb.out (letB_false.2 (.inl (by omega))) (digB_false.2 (.inl c1)))
        clear hstep
        go_wp2_with fail
        go_returns
        exact ⟨by rw [hb.out]; rfl, hX⟩
      · by_cases c2 : s[k].toNat ≤ 57
        · have c1' : 48 ≤ s[k].toNat := by omega
          clear c1
          rcases Nat.eq_zero_or_pos k with rfl | hk0
          · have hb2 := hide (hR0.out (letB_false.2 (.inl (by omega))))
            clear hstep hb
            go_wp2_with fail
            go_returns
            exact ⟨by rw [hb2.out]; rfl, hX⟩
          · replace hstep := hide (hstep.out (by rw [digB_true.2 ⟨c1', c2⟩, Bool.or_true]))
            have hk0I : ((k : Int) == 0) = false := by rw [beq_eq_false_iff_ne]; omega
            have hF' : Hid (0 < k + 1 → letB s[0] = true) := fun _ => hF.out hk0
            clear hb hF
            go_wp2_with fail
            go_roundg (s.size - (k + 1))
            case measure => omega
            case rel => exact ⟨k + 1, by go_num, by omega, hstep, hF', hX⟩
        · have c2' : 57 < s[k].toNat := by omega
          have c1' : 48 ≤ s[k].toNat := by omega
          clear c1 c2
          by_cases c3 : s[k].toNat < 97
          · replace hb := hide (hb.out (letB_false.2 (.inl c3)) (digB_false.2 (.inr c2')))
            clear hstep
            go_wp2_with fail
            go_returns
            exact ⟨by rw [hb.out]; rfl, hX⟩
          · have c3' : 97 ≤ s[k].toNat := by omega
            clear c3
            by_cases c4 : 122 < s[k].toNat
            · replace hb := hide (hb.out (letB_false.2 (.inr c4)) (digB_false.2 (.inr c2')))
              clear hstep
              go_wp2_with fail
              go_returns
              exact ⟨by rw [hb.out]; rfl, hX⟩
            · have c4' : s[k].toNat ≤ 122 := by omega
              clear c4
              have hlk := letB_true.2 ⟨c3', c4'⟩
              replace hstep := hide (hstep.out (by rw [hlk, Bool.true_or]))
              have hF' : Hid (0 < k + 1 → letB s[0] = true) := fun _ => by
                rcases Nat.eq_zero_or_pos k with rfl | hk0
                · exact hlk
                · exact hF.out hk0
              clear hb hF hlk
              go_wp2_with fail
              go_roundg (s.size - (k + 1))
              case measure => omega
              case rel => exact ⟨k + 1, by go_num, by omega, hstep, hF', hX⟩
    · have hk' : k = s.size := by omega
      have hge : (s.size : Int) ≤ k := by omega
      have hR3 := hide (hR2.out (hF.out (by omega)) fun j hj => hD.out j hj (by omega))
      replace hk' := hide hk'
      clear hlt hF
      go_wp2_with fail
      go_returns
      exact ⟨by rw [hR3.out]; rfl, hX⟩
end Go.Proofs.Ytkfdkjjocdbolaa
set_option linter.unusedVariables false
set_option linter.unusedSimpArgs false
namespace Go.Proofs.Ytkfdkjjocdbolaa
open Go.RowKit

/-- A fact that growth does not end, nor a turn of a block, from B on, that holds no cells. -/
structure Stab (B : Nat) (p : World → Prop) : Prop where
  ext : ∀ A C, p A → Ext A C → p C
  put : ∀ (A : World) (l : Nat) (o o' : Obj), p A → B ≤ l → A.heap[l]? = some o → o.isCells = false → p (A.putObj l o')

section
variable {B : Nat}
theorem Stab.and {p q : World → Prop} (h : Stab B p) (k : Stab B q) : Stab B fun W => p W ∧ q W :=
  ⟨fun A C x e => ⟨h.ext A C x.1 e, k.ext A C x.2 e⟩, fun A l o o' x hl ho hc => ⟨h.put A l o o' x.1 hl ho hc, k.put A l o o' x.2 hl ho hc⟩⟩
theorem Stab.pure (p : Prop) : Stab B fun _ => p := ⟨fun _ _ h _ => h, fun _ _ _ _ h _ _ _ => h⟩
theorem Stab.ex {ι : Sort _} {p : ι → World → Prop} (h : ∀ i, Stab B (p i)) : Stab B fun W => ∃ i, p i W :=
  ⟨fun A C ⟨i, x⟩ e => ⟨i, (h i).ext A C x e⟩, fun A l o o' ⟨i, x⟩ hl ho hc => ⟨i, (h i).put A l o o' x hl ho hc⟩⟩
theorem Stab.all {ι : Sort _} {p : ι → World → Prop} (h : ∀ i, Stab B (p i)) : Stab B fun W => ∀ i, p i W :=
  ⟨fun A C x e i => (h i).ext A C (x i) e, fun A l o o' x hl ho hc i => (h i).put A l o o' (x i) hl ho hc⟩
theorem put_grown (A : World) (l : Nat) (o : Obj) : A.grownBy (A.putObj l o) (some l) := grownBy_putObj' A l o
theorem put_block {A : World} {l k : Nat} {o o' p : Obj} (ho : A.heap[l]? = some o) (hc : o.isCells = false) (hk : A.heap[k]? = some p) (hp : p.isCells = true) : (A.putObj l o').heap[k]? = some p :=
  ((put_grown A l o').block k (lt_of_block hk) (fun e => by
    obtain rfl : k = l := Option.some.inj e
    rw [hk] at ho
    rw [Option.some.inj ho, hc] at hp
    cases hp)).trans hk
theorem put_ext {W0 A : World} (h : Ext W0 A) {l : Nat} (hl : W0.heap.size ≤ l) (o : Obj) : Ext W0 (A.putObj l o) :=
  ext_grown h (put_grown A l o) fun k e => by obtain rfl : l = k := Option.some.inj e; exact hl
theorem Stab.of_ext {W0 : World} (h : W0.heap.size ≤ B) : Stab B (Ext W0) :=
  ⟨fun A C x e => x.trans e, fun A l o o' x hl _ _ => put_ext x (Nat.le_trans h hl) o'⟩
theorem Stab.ob (b : Nat) (T : TypeId) (vs : List Value) : Stab B fun W => Ob W b T vs :=
  ⟨fun A C x e => x.ext e, fun A l o o' x _ ho hc => put_block ho hc x rfl⟩
theorem cell_put {A : World} {l : Nat} {o o' : Obj} (ho : A.heap[l]? = some o) (hc : o.isCells = false) {a : Addr} {v : Value} (h : A.cell? a = some v) : (A.putObj l o').cell? a = some v :=
  cell_kept h (put_grown A l o') fun r e => by obtain rfl : l = r := Option.some.inj e; exact ⟨o, ho, hc⟩
theorem Stab.own (base e size : Nat) (v : Value) (n : Nat) (xs : List Value) : Stab B fun W => W.ownsRow base e size v n xs :=
  ⟨fun A C x h => own_ext x h, fun A l o o' x _ ho hc => ownsRow_putObj x o' ho hc⟩
theorem Stab.sl (S : List Nat) (sz : Nat) (v : Value) (n : Nat) (xs : List Value) : Stab B fun W => Sl W S sz v n xs :=
  ⟨fun A C x h => x.ext h, fun A l o o' ⟨a, cap, e, h1, h2, h3, h4⟩ _ ho hc => ⟨a, cap, e, h1, h2, h3, h4.imp id fun ⟨b, p, e', hb, hcell⟩ => ⟨b, p, e', hb, fun j u hu => cell_put ho hc (hcell j u hu)⟩⟩⟩
/-- Where only blocks of cells were turned, all that holds no cells is as it was. -/
theorem keeps_fr {S : List Nat} {W W' : World} (h : Fr S W W') (hc : ∀ b ∈ S, ∃ T vs, Ob W b T vs) : KeepsFrom B W W' :=
  ⟨h.size, fun k o _ hk ho => (h.block k (lt_of_block hk) (fun hm => by
    obtain ⟨T, vs, hb⟩ := hc k hm
    unfold Ob at hb
    rw [hb] at hk
    rw [← Option.some.inj hk] at ho
    cases ho)).trans hk⟩
theorem below_fr {S : List Nat} {n₀ : Nat} {W W' : World} (h : Fr S W W') (hn : n₀ ≤ W.heap.size) (hS : ∀ b ∈ S, n₀ ≤ b) : Below n₀ W W' :=
  ⟨h.os, h.tape, h.output, h.size, fun k hk => h.block k (by omega) fun hm => by have := hS k hm; omega⟩
end

/-- What is ranged over: the things that come, what is handed over for each, and a fact on it in the world of its round. A round that goes on keeps what lies below n₀. -/
def Seqs {β : Type} (P : Program) (n₀ : Nat) (g : Nat) (lb : Array Value) (H : β → Array Value → World → Prop) (xs : List β) (w : World) : Prop :=
  ∀ (l : Nat) (J Jx : Nat → World → Prop) (W : World), Ext w W → (∀ k A C, J k A → Ext A C → J k C) → (∀ k A C, Jx k A → Ext A C → Jx k C) →
    (∀ k x vs W1, xs[k]? = some x → J k W1 → H x vs W1 → YieldAt Fence.wide 0 P l vs W1 fun e W' =>
      (e = .returned (.bool true) ∧ J (k + 1) W' ∧ Below n₀ W1 W') ∨ (e = .returned (.bool false) ∧ Jx (k + 1) W')) →
    J 0 W → Calls P g (#[.func (.yield l) #[] #[]] ++ lb) W fun e W' => (∃ v, e = .returned v) ∧ (J xs.length W' ∨ ∃ k, k ≤ xs.length ∧ Jx k W')
theorem Seqs.later {β : Type} {P : Program} {n₀ g : Nat} {lb : Array Value} {H : β → Array Value → World → Prop} {xs : List β} {w w' : World} (h : Seqs P n₀ g lb H xs w) (hX : Ext w w') : Seqs P n₀ g lb H xs w' :=
  fun l J Jx W hW => h l J Jx W (hX.trans hW)

/-- How the body of a round may be left. -/
def rfPost (B n₀ : Nat) (I : Nat → World → Prop) (Ix : Code → Nat → World → Prop) (k : Nat) (W : World) : Exit → Act → World → Prop
  | .normal, _, W' => KeepsFrom B W W' ∧ Below n₀ W W' ∧ I k W'
  | .ret, _, W' => KeepsFrom B W W' ∧ Ix .ret k W'
  | .exit id, _, W' => KeepsFrom B W W' ∧ Ix (.exit id) k W'
  | .goto t, _, W' => KeepsFrom B W W' ∧ Ix (.goto t) k W'
  | .panic _, _, _ => False
  | .outgrown, _, _ => False

theorem keeps_ext {B : Nat} {W W' : World} (h : Ext W W') : KeepsFrom B W W' := keeps_fr (S := []) (Fr.of_ext h) (by simp)

section
variable {β : Type} {P : Program} {g : Operand} {ps : Array Tmp} {assign body : Code} {Q : Exit → Act → World → Prop} {a : Act} {w w0 : World} {gf n₀ : Nat} {lb : Array Value} {H : β → Array Value → World → Prop} {xs : List β}
/-- The statement 'for .. := range g { .. }'. -/
theorem wp_range (hg : a.eval g = .func (.func gf) #[] lb) (eg : ∀ args w, (callFunc gf args).run P w = .ok (.enter gf args) w)
    (hseq : Seqs P n₀ gf lb H xs w0) (hb0 : Ext w0 w) (hn : n₀ ≤ w.heap.size) (hps : ∀ x vs W, H x vs W → vs.size = ps.size) (hH : ∀ x vs, Stab w.heap.size (H x vs))
    (I : Nat → World → Prop) (Ix : Code → Nat → World → Prop) (hI : ∀ k, Stab w.heap.size (I k)) (hIx : ∀ c k, Stab w.heap.size (Ix c k)) (h0 : I 0 w)
    (Ax : Nat → β → Array Value → Act → World → Prop) (hAx : ∀ k x vs a', Stab w.heap.size (Ax k x vs a'))
    (hassign : ∀ (l k : Nat) (x : β) (vs : Array Value) (W : World) (K : Act → World → Prop), I k W → H x vs W → (∀ a' W', Ext W W' → Ax k x vs a' W' → K a' W') →
      assign.wpIn (Fence.wide.inRound l) 0 P (Exit.then K fun _ _ _ => False) { tmps := (ps.zip vs).foldl (fun t (p, v) => t.setIfInBounds p v) a.tmps, defers := [] } W)
    (hbody : ∀ (l k : Nat) (x : β) (vs : Array Value) (a' : Act) (W : World), xs[k]? = some x → I k W → H x vs W → Ax k x vs a' W →
      body.wpIn (Fence.wide.inRound l) 0 P (rfPost w.heap.size n₀ I Ix (k + 1) W) a' W)
    (hdone : ∀ (D : Nat) (W : World), w.heap.size ≤ D → I xs.length W → W.heap[D]? = some (.deferred (some [])) → Q .normal { a with defers := { target := .collected D, args := #[] } :: a.defers } W)
    (hstop : ∀ (D : Nat) (c : Code) (k : Nat) (W : World), w.heap.size ≤ D → k ≤ xs.length → Ix c k W → W.heap[D]? = some (.deferred (some [])) → c.wp P Q { a with defers := { target := .collected D, args := #[] } :: a.defers } W) :
    (Code.rangeFunc g ps assign body).wp P Q a w := by
  refine (wpIn_wide (n := 0)).1 (wpIn_rangeFunc fun fn _ => ?_)
  obtain ⟨B, hBe⟩ : ∃ B, B = w.heap.size := ⟨_, rfl⟩
  rw [← hBe] at hn hH hI hIx hAx hbody hdone hstop
  -- the loop's record
  let rc : LoopState → Option Code → Loop := fun st pe => { state := st, pending := pe, fn, tmps := a.tmps, params := ps, assign, body, defers := B }
  have hW1 : ∃ W1, W1 = (w.alloc (.deferred (some []))).alloc (.loop (rc .ready none)) := ⟨_, rfl⟩
  obtain ⟨W1, hW1⟩ := hW1
  have hXW : Ext w W1 := by rw [hW1]; exact ((Ext.refl w).alloc _).alloc _
  have hlp : W1.heap[B + 1]? = some (.loop (rc .ready none)) := by
    have := World.alloc_heap_new (w.alloc (.deferred (some []))) (.loop (rc .ready none))
    rw [World.size_alloc, ← hBe, ← hW1] at this; exact this
  have hdf : W1.heap[B]? = some (.deferred (some [])) := by
    have h1 := World.alloc_heap_new w (.deferred (some []))
    rw [← hBe] at h1
    rw [hW1]
    exact (Below.heap_alloc _ _ _ (lt_of_block h1)).trans h1
  refine ⟨B + 1, [{ target := .collected B, args := #[] }], W1, { target := .fn (.func gf) lb, args := #[.func (.yield (B + 1)) #[] #[]] }, W1, gf, #[.func (.yield (B + 1)) #[] #[]] ++ lb, W1, ?_, ?_, fun _ _ => trivial, ?_, fun h => by simp [Fence.wide] at h, callsIn_wide.2 ?_⟩
  · have h1 := run_enterLoop_outer (P := P) (w := w) fn a.tmps ps assign body
    rw [← hBe] at h1
    rw [hW1]
    exact h1
  · simp only [resolve, hg]
    simp [go_sem]
  · simp [invoke, go_sem, eg]
  have keep : ∀ {A C : World} {k : Nat} {o : Obj}, A.heap[k]? = some o → Ext A C → C.heap[k]? = some o := fun h e => (e.block _ (lt_of_block h)).trans h
  refine (hseq (B + 1) (fun k W => I k W ∧ W.heap[B + 1]? = some (.loop (rc .ready none)) ∧ W.heap[B]? = some (.deferred (some [])))
    (fun k W => ∃ c, Ix c k W ∧ W.heap[B + 1]? = some (.loop (rc .done (some c))) ∧ W.heap[B]? = some (.deferred (some []))) W1 (hb0.trans hXW)
    (fun k A C h e => ⟨(hI k).ext A C h.1 e, keep h.2.1 e, keep h.2.2 e⟩)
    (fun k A C ⟨c, h1, h2, h3⟩ e => ⟨c, (hIx c k).ext A C h1 e, keep h2 e, keep h3 e⟩) ?_ ⟨(hI 0).ext _ _ h0 hXW, hlp, hdf⟩).mono ?_
  · -- a round
    rintro k x vs W hx ⟨hi, hl, hd⟩ hh
    refine ⟨fn, _, assign, body, run_yield hl (hps x vs W hh), roundIn_of_wpIn trivial (hassign _ k x vs W _ hi hh fun a' Wa hXa hax => ?_)⟩
    have hl1 := keep hl hXa
    have hd1 := keep hd hXa
    have hlt := lt_of_block hl1
    refine ⟨_, run_beginRound hl1 rfl, ?_⟩
    obtain ⟨Wb, hWb⟩ : ∃ Wb, Wb = Wa.putObj (B + 1) (.loop { rc .ready none with state := .busy }) := ⟨_, rfl⟩
    have hl2 : Wb.heap[B + 1]? = some (.loop { rc .ready none with state := .busy }) := by rw [hWb]; exact World.putObj_heap_same hlt
    have hd2 : Wb.heap[B]? = some (.deferred (some [])) := by rw [hWb]; exact (World.putObj_heap_other (by omega)).trans hd1
    have lift : ∀ {p : World → Prop}, Stab B p → p Wa → p Wb := fun hp h => by rw [hWb]; exact hp.put _ _ _ _ h (by omega) hl1 rfl
    have hBw : Below n₀ W Wb := by
      have h1 : Below n₀ W Wa := below_fr (S := []) (Fr.of_ext hXa) (by have := lt_of_block hl; omega) (by simp)
      rw [hWb]
      exact h1.trans (belowK_b (w := w) (by omega) _ _ _ _ (by omega) hl1 rfl rfl)
    rw [← hWb]
    refine wpIn_mono (hbody _ k x vs a' Wb hx (lift (hI k) ((hI k).ext _ _ hi hXa)) (lift (hH x vs) ((hH x vs).ext _ _ hh hXa)) (lift (hAx k x vs a') hax)) ?_
    have fin : ∀ (jump : Option Code) (W3 : World), KeepsFrom B Wb W3 → ∃ W4, (Instr.endRound (B + 1) jump).run P W3 = .ok (.bool jump.isNone) W4 ∧
        (∀ p : World → Prop, Stab B p → p W3 → p W4) ∧ W4.heap[B + 1]? = some (.loop (rc (if jump.isNone then .ready else .done) jump)) ∧ W4.heap[B]? = some (.deferred (some [])) ∧ Below n₀ W3 W4 := by
      intro jump W3 hk
      have hl3 := hk.same _ _ (by omega) hl2 rfl
      have hd3 := hk.same _ _ (Nat.le_refl _) hd2 rfl
      exact ⟨_, run_endRound jump hl3, fun p hp h => hp.put _ _ _ _ h (by omega) hl3 rfl, World.putObj_heap_same (lt_of_block hl3), (World.putObj_heap_other (by omega)).trans hd3, belowK_b (w := w) (by omega) _ _ _ _ (by omega) hl3 rfl rfl⟩
    rintro e a3 W3 hp
    cases e with
    | normal =>
      obtain ⟨hk3, hb3, hi3⟩ := hp
      obtain ⟨W4, hr, hs, h4, h5, h6⟩ := fin none W3 hk3
      exact ⟨_, W4, hr, .inl ⟨rfl, ⟨hs _ (hI _) hi3, h4, h5⟩, (hBw.trans hb3).trans h6⟩⟩
    | ret =>
      obtain ⟨hk3, hi3⟩ := hp
      obtain ⟨W4, hr, hs, h4, h5, -⟩ := fin (some .ret) W3 hk3
      exact ⟨_, W4, hr, .inr ⟨rfl, .ret, hs _ (hIx _ _) hi3, h4, h5⟩⟩
    | exit id =>
      obtain ⟨hk3, hi3⟩ := hp
      obtain ⟨W4, hr, hs, h4, h5, -⟩ := fin (some (.exit id)) W3 hk3
      exact ⟨_, W4, hr, .inr ⟨rfl, .exit id, hs _ (hIx _ _) hi3, h4, h5⟩⟩
    | goto t =>
      obtain ⟨hk3, hi3⟩ := hp
      obtain ⟨W4, hr, hs, h4, h5, -⟩ := fin (some (.goto t)) W3 hk3
      exact ⟨_, W4, hr, .inr ⟨rfl, .goto t, hs _ (hIx _ _) hi3, h4, h5⟩⟩
    | panic ch => exact hp.elim
    | outgrown => exact hp.elim
  · -- behind it
    rintro e W2 ⟨⟨v, rfl⟩, ⟨hi, hl, hd⟩ | ⟨k, hk, c, hi, hl, hd⟩⟩
    · exact ⟨none, _, run_endLoop hl (by intro h; cases h), hdone B _ (Nat.le_refl _) ((hI _).put _ _ _ _ hi (by omega) hl rfl) ((World.putObj_heap_other (by omega)).trans hd)⟩
    · exact ⟨some c, _, run_endLoop hl (by intro h; cases h), wpIn_wide.2 (hstop B c k _ (Nat.le_refl _) hk ((hIx c k).put _ _ _ _ hi (by omega) hl rfl) ((World.putObj_heap_other (by omega)).trans hd))⟩
end

/-- A contract of a function that ranges over a function: from its body's walk. -/
theorem calls_marks {P : Program} {f : FuncId} {fn : Func} {c : Code} {args : Array Value} {w : World} {R : Ending → World → Prop} (hf : P.funcs[f]? = some fn) (hb : fn.body = some c)
    (h : c.wp P (bodyPostM Fence.wide 0 P fn R) { tmps := args ++ Array.replicate (fn.ntmps - args.size) undef, defers := [] } w) : Calls P f args w R :=
  (callsIn_wide (n := 0)).1 (callsIn_of_wp_marks hf hb trivial (wpIn_wide.2 h) rfl)
/-- A call in a round. -/
theorem in_round {P : Program} {l n : Nat} {f : FuncId} {args : Array Value} {w : World} {R : Ending → World → Prop} (h : Calls P f args w R) : CallsIn (Fence.wide.inRound l) n P f args w R := CallsIn.inRound l (callsIn_wide.2 h)
/-- The end of a function that ranged over a function: the mark is come to, the block is shut. -/
theorem ret_mark {P : Program} {fn : Func} {R : Ending → World → Prop} {tmps : Array Value} {D : Nat} {W : World} {v : Value} (hK : W.heap[D]? = some (.deferred (some [])))
    (hr : (results fn tmps).run P (W.putObj D (.deferred none)) = .ok v (W.putObj D (.deferred none))) (hR : R (.returned v) (W.putObj D (.deferred none))) :
    bodyPostM Fence.wide 0 P fn R .ret { tmps := tmps, defers := [{ target := .collected D, args := #[] }] } W :=
  ⟨by simp, .inl ⟨D, _, rfl, run_takeDeferred hK, v, hr, hR⟩⟩
end Go.Proofs.Ytkfdkjjocdbolaa
set_option linter.unusedVariables false
set_option linter.unusedSimpArgs false
namespace Go.Proofs.Ytkfdkjjocdbolaa
open Go.RowKit
theorem wide_depth : Fence.wide.depth = none := rfl
theorem wide_fn (f : FuncId) : Fence.wide.fn f = True := rfl
theorem seq_gi {P : Program} {l n : Nat} {f : FuncId} {args : Array Value} {w : World} {v : Value} {R : Ending → World → Prop} (h : Calls P f args w fun e w' => e = .returned v ∧ Ext w w')
    (hr : ∀ g : GW w, R (.returned v) g.val) : CallsIn (Fence.wide.inRound l) n P f args w R := in_round (seq_gw h hr)
theorem seq_gi' {P : Program} {l n : Nat} {f : FuncId} {args : Array Value} {W : World} {g : GW W} {v : Value} {R : Ending → World → Prop} (h : Calls P f args g.val fun e w' => e = .returned v ∧ Ext g.val w')
    (hr : ∀ k : GW W, R (.returned v) k.val) : CallsIn (Fence.wide.inRound l) n P f args g.val R := in_round (seq_gw' h hr)
theorem seq_wi {P : Program} {n : Nat} {f : FuncId} {args : Array Value} {w : World} {v : Value} {R : Ending → World → Prop} (h : Calls P f args w fun e w' => e = .returned v ∧ Ext w w')
    (hr : ∀ g : GW w, R (.returned v) g.val) : CallsIn Fence.wide n P f args w R := callsIn_wide.2 (seq_gw h hr)
theorem seq_wi' {P : Program} {n : Nat} {f : FuncId} {args : Array Value} {W : World} {g : GW W} {v : Value} {R : Ending → World → Prop} (h : Calls P f args g.val fun e w' => e = .returned v ∧ Ext g.val w')
    (hr : ∀ k : GW W, R (.returned v) k.val) : CallsIn Fence.wide n P f args g.val R := callsIn_wide.2 (seq_gw' h hr)
/-- What is told of a box across a turn of a block that holds no cells. -/
theorem ob_put {A : World} {l : Nat} {o o' : Obj} (ho : A.heap[l]? = some o) (hc : o.isCells = false) {b : Nat} {T : TypeId} {vs : List Value} (h : Ob A b T vs) : Ob (A.putObj l o') b T vs := put_block ho hc h rfl
end Go.Proofs.Ytkfdkjjocdbolaa
set_option linter.unusedVariables false
set_option linter.unusedSimpArgs false
namespace Go.Proofs.Ytkfdkjjocdbolaa
open Go.RowKit
attribute [local go_sem] GW.cell GW.frozen In.eq_true In.le_true In.ne In.ne' In.ne_add In.ne_add' In.lt_add Upto.le_true Upto.le_add Upto.lt_add Oper.semAt_some wide_depth wide_fn
/-- A column's two cells. -/
def cc (a : Cl) : List Value := [.string a.1, .int .i64 a.2]
def cl (l : List Cl) : List Value := l.flatMap cc
theorem cl_length (l : List Cl) : (cl l).length = l.length * 2 := by
  induction l with
  | nil => rfl
  | cons p r ih => simp only [cl, cc, List.flatMap_cons, List.length_append, List.length_cons, List.length_nil] at ih ⊢; omega
theorem cl_append (l m : List Cl) : cl (l ++ m) = cl l ++ cl m := by simp [cl]
theorem cl_one (l : List Cl) : ∀ u ∈ cl l, u.oneCell' = true := by
  intro u hu
  simp only [cl, List.mem_flatMap, cc] at hu
  obtain ⟨a, _, hu⟩ := hu
  simp at hu
  rcases hu with rfl | rfl <;> rfl
theorem cl_get : ∀ (l : List Cl) (i : Nat) (a : Cl), l[i]? = some a → ∀ j v, (cc a)[j]? = some v → (cl l)[i * 2 + j]? = some v
  | q :: r, 0, a, h, j, v, hv => by
    simp at h; subst h
    have hj : j < (cc q).length := (List.getElem?_eq_some_iff.1 hv).1
    simp only [cl, List.flatMap_cons]
    rw [List.getElem?_append_left (by omega), show 0 * 2 + j = j by omega]; exact hv
  | q :: r, i + 1, a, h, j, v, hv => by
    have := cl_get r i a (by simpa using h) j v hv
    rw [show (i + 1) * 2 + j = i * 2 + j + 1 + 1 by omega]
    simpa [cl, cc] using this
/-- A schema, where it lies. -/
abbrev Cw (w : World) (S : List Nat) (v : Value) (l : List Cl) : Prop := Sl w S 2 v l.length (cl l)
abbrev OwnC (w : World) (base : Nat) (v : Value) (l : List Cl) : Prop := w.ownsRow base 58 2 v l.length (cl l)
theorem cw_form {w : World} {S : List Nat} {v : Value} {l : List Cl} (h : Cw w S v l) : ∃ A cap, v = .slice A l.length cap ∧ l.length ≤ cap ∧ cap ≤ maxLen ∧
    ∀ (i : Nat) (x : Cl), l[i]? = some x → ∃ b o, A = some ⟨b, o, none⟩ ∧ b ∉ S ∧ b < w.heap.size ∧ w.cell? ⟨b, o + i * 2, none⟩ = some (.string x.1) ∧ w.cell? ⟨b, o + i * 2 + 1, none⟩ = some (.int .i64 x.2) := by
  obtain ⟨A, cap, rfl, h1, h2, h3, h4⟩ := h
  refine ⟨A, cap, rfl, h1, h2, fun i x hx => ?_⟩
  have hg := cl_get l i x hx
  rcases h4 with h4 | ⟨b, o, rfl, hb, hc⟩
  · have := hg 0 _ rfl; rw [h4] at this; cases this
  · have c0 := hc _ _ (hg 0 _ rfl)
    have c1 := hc _ _ (hg 1 _ rfl)
    exact ⟨b, o, rfl, hb, block_lt_of_cell c0, c0, c1⟩
set_option maxHeartbeats 1000000 in
theorem names_c (A : Option Addr) (n cap : Nat) (w : World) : Calls Try.prog 56 #[.slice A n cap] w fun e w' => ∃ b, e = .returned (.func (.func 74) #[] #[.pointer (some ⟨b, 0, none⟩)]) ∧ Ob w' b 31 [.slice A n cap] ∧ w.heap.size ≤ b ∧ Ext w w' := by
  go_enter Try.func56, Try.ntmps56
  go_wp2_with fail
  go_returns
  exact ⟨_, rfl, Ob.new w _ [.slice A n cap], Nat.le_refl _, (Ext.refl w).alloc _⟩
set_option maxHeartbeats 4000000 in
set_option maxRecDepth 100000 in
theorem names_seq (l : List Cl) (v : Value) (w0 w : World) (b : Nat) (hC : Cw w0 [] v l) (hX : Ext w0 w) (hb : Ob w b 31 [v]) :
    Seqs Try.prog w0.heap.size 74 #[.pointer (some ⟨b, 0, none⟩)] (fun (x : Cl × Nat) vs _ => vs = #[.int .i64 x.2, .string x.1.1]) l.zipIdx w := by
  intro L J Jx W hW hJ hJx hY h0
  obtain ⟨A, cap, rfl, hlc, hlm, hat⟩ := cw_form hC
  unfold maxLen at hlm
  replace hat := hide hat
  have q0 := (hb.ext hW).cell 0 rfl
  have hz0 := hX.size
  have hz1 := hW.size
  replace hW := hide (hX.trans hW)
  have hJ' := hide hJ
  have hY' := hide hY
  clear hJ hY hb hC hX
  refine (callsIn_wide (n := 1)).1 ?_
  refine callsIn_of_wp Try.func74 rfl trivial ?_ rfl
  simp only [Try.ntmps74, List.size_toArray, List.length_cons, List.length_nil, Nat.reduceAdd, Nat.reduceSub, Array.replicate_succ, Array.replicate_zero, List.push_toArray, List.append_toArray, List.nil_append, List.cons_append]
  gi_wp2
  gi_loopw [7] (fun i wr => ∃ k : Nat, i = .int .i64 k ∧ k ≤ l.length ∧ Hid (J k wr) ∧ Below w0.heap.size W wr) (fun i _ => l.length - (intOf i).toNat)
  case atStart => exact ⟨0, rfl, Nat.zero_le _, h0, Below.refl _ _⟩
  case round =>
    obtain ⟨k, rfl, hk, hJk, hB⟩ := hrel
    by_cases hlt : k < l.length
    · obtain ⟨x, hx⟩ : ∃ x, l[k]? = some x := ⟨_, List.getElem?_eq_getElem hlt⟩
      obtain ⟨b', o', rfl, -, hb', c0, c1⟩ := hat.out k x hx
      have k0 := (hB.cell (p := ⟨b', o' + k * 2, none⟩) hb').trans (cell_later hW.out c0)
      have k1 := (hB.cell (p := ⟨b', o' + k * 2 + 1, none⟩) hb').trans (cell_later hW.out c1)
      have hbr : b' < wr.heap.size := block_lt_of_cell k0
      obtain ⟨xn, xk⟩ := x
      obtain ⟨fn, tmps, assign, body, hy, hR⟩ := hY'.out k ((xn, xk), k) #[.int .i64 k, .string xn] (wr.alloc (.cells #[.string xn, .int .i64 xk] 58)) (by rw [List.getElem?_zipIdx, hx]; simp) (hJ'.out _ _ _ hJk.out ((Ext.refl wr).alloc _)) rfl
      have hzB := hB.size
      replace hR := hide hR
      clear c0 c1 hat hx q0
      gi_wp2
      refine hR.out.mono ?_
      rintro e W3 (⟨rfl, hJ3, hk3⟩ | ⟨rfl, hJx3⟩)
      · replace hJ3 := hide hJ3
        replace hk3 := hide hk3
        gi_wp2
        go_roundw
        case rel => exact ⟨k + 1, by go_num, by omega, hJ3, hB.trans ((Below.alloc (Below.refl _ _) (by omega) _).trans hk3.out)⟩
        case measure => simp [intOf]; omega
      · replace hJx3 := hide hJx3
        gi_wp2
        refine bodyPost_ret (results_none rfl _ _ _) rfl ?_
        exact ⟨⟨_, rfl⟩, .inr ⟨k + 1, by rw [List.length_zipIdx]; omega, hJx3.out⟩⟩
    · have hk' : k = l.length := by omega
      have hge : (l.length : Int) ≤ k := by omega
      have hJe : Hid (J l.zipIdx.length wr) := by show J _ wr; rw [List.length_zipIdx, ← hk']; exact hJk.out
      replace hk' := hide hk'
      clear q0
      gi_wp2
      go_end0
      exact ⟨⟨_, rfl⟩, .inl hJe.out⟩
theorem str_ne {s t : ByteArray} (h : ¬ s = t) : (s.toList == t.toList) = false := by rw [beq_eq_false_iff_ne]; exact fun e => h (toList_iff.1 e)
set_option maxHeartbeats 1000000 in
theorem index1_c (s n : ByteArray) (b : Nat) (w : World) (hb : Ob w b 9 [.string n]) : Calls Try.prog 76 #[.string s, .pointer (some ⟨b, 0, none⟩)] w fun e w' => e = .returned (.bool (decide (s = n))) ∧ Ext w w' := by
  have q0 := hb.cell 0 rfl
  clear hb
  by_cases h : s = n
  · subst h
    rw [decide_eq_true rfl]
    go_enter Try.func76, Try.ntmps76
    go_wp2_with fail
    go_returns
    exact ⟨by first | rfl | simp, Ext.refl w⟩
  · rw [decide_eq_false h]
    have h2 := str_ne h
    clear h
    go_enter Try.func76, Try.ntmps76
    go_wp2_with fail
    go_returns
    exact ⟨by first | rfl | simp [h2], Ext.refl w⟩
end Go.Proofs.Ytkfdkjjocdbolaa
set_option linter.unusedVariables false
set_option linter.unusedSimpArgs false
namespace Go.Proofs.Ytkfdkjjocdbolaa
open Go.RowKit
attribute [local go_sem] GW.cell GW.frozen In.eq_true In.le_true In.ne In.ne' In.ne_add In.ne_add' In.lt_add Upto.le_true Upto.le_add Upto.lt_add Oper.semAt_some wide_depth wide_fn
set_option maxHeartbeats 4000000 in
set_option maxRecDepth 100000 in
theorem schFirst_c (l : List Cl) (n : ByteArray) (v : Value) (w : World) (hC : Cw w [] v l) (bn : Nat) (hn : Ob w bn 9 [.string n]) : Calls Try.prog 75 #[v, .func (.func 76) #[] #[.pointer (some ⟨bn, 0, none⟩)]] w fun e w' => e = .returned (.int .i64 (ixC l n)) ∧ Ext w w' := by
  obtain ⟨A, cap, rfl, hlc, hlm, -⟩ := cw_form hC
  unfold maxLen at hlm
  refine calls_marks Try.func75 rfl ?_
  simp only [Try.ntmps75, List.size_toArray, List.length_cons, List.length_nil, Nat.reduceAdd, Nat.reduceSub, Array.replicate_succ, Array.replicate_zero, List.push_toArray, List.append_toArray, List.nil_append, List.cons_append]
  obtain ⟨Wb, hWb⟩ : ∃ Wb, Wb = (w.alloc (.cells #[.func (.func 76) #[] #[.pointer (some ⟨bn, 0, none⟩)]] 80)).alloc (.cells #[.int .i64 0] 3) := ⟨_, rfl⟩
  have hX0 : Ext w Wb := by rw [hWb]; exact ((Ext.refl w).alloc _).alloc _
  have ob0 : Ob Wb w.heap.size 80 [.func (.func 76) #[] #[.pointer (some ⟨bn, 0, none⟩)]] := by rw [hWb]; exact (Ob.new w _ [.func (.func 76) #[] #[.pointer (some ⟨bn, 0, none⟩)]]).alloc _
  have ob1 : Ob Wb (w.heap.size + 1) 3 [.int .i64 0] := by rw [hWb]; have := Ob.new (w.alloc (.cells #[.func (.func 76) #[] #[.pointer (some ⟨bn, 0, none⟩)]] 80)) 3 [.int .i64 0]; rwa [World.size_alloc] at this
  have hWs : Wb.heap.size = w.heap.size + 2 := by rw [hWb]; simp
  replace hX0 := hide hX0
  replace hC := hide hC
  go_wp2_with (go_at_call 56; refine (names_c _ _ _ _).mono ?_; rintro ee w1 ⟨b, rfl, hb, hle, hX1⟩)
  rw [← hWb] at hle hX1
  clear hWb
  have hX2 := hide (hX0.out.trans hX1)
  have hz2 := hX2.out.size
  have hz1 := hX1.size
  refine wp_range (xs := l.zipIdx) rfl (enters_of Try.func74 (by kernel_rfl) rfl) (names_seq l _ w w1 b hC.out hX2.out hb) (Ext.refl _) hX2.out.size (by rintro x vs W rfl; rfl) (fun x vs => Stab.pure _)
    (fun k W => (Ob W w.heap.size 80 [.func (.func 76) #[] #[.pointer (some ⟨bn, 0, none⟩)]] ∧ Ob W (w.heap.size + 1) 3 [.int .i64 0]) ∧ (Ext w W ∧ ∀ c ∈ l.take k, c.1 ≠ n))
    (fun c k W => (c = .ret ∧ Ob W (w.heap.size + 1) 3 [.int .i64 (ixC l n)]) ∧ Ext w W)
    (fun k => ((Stab.ob _ _ _).and (Stab.ob _ _ _)).and ((Stab.of_ext hz2).and (Stab.pure _)))
    (fun c k => ((Stab.pure _).and (Stab.ob _ _ _)).and (Stab.of_ext hz2))
    ⟨⟨ob0.ext hX1, ob1.ext hX1⟩, hX2.out, by simp⟩
    (fun k x vs a' _ => a' = { tmps := #[.slice A l.length cap, .func (.func 76) #[] #[.pointer (some ⟨bn, 0, none⟩)], undef, .pointer (some ⟨w.heap.size, 0, none⟩), .pointer (some ⟨w.heap.size + 1, 0, none⟩), .int .i64 x.2, .string x.1.1, .slice A l.length cap, .func (.func 74) #[] #[.pointer (some ⟨b, 0, none⟩)], .int .i64 x.2, .string x.1.1, undef, undef, undef, undef], defers := [] })
    (fun k x vs a' => Stab.pure _) ?assign ?body ?done ?stop
  case assign =>
    rintro L k x vs W K _ rfl hK
    gi_wp2
    exact hK _ _ (Ext.refl _) rfl
  case body =>
    rintro L k x vs a' W hx ⟨⟨o0, o1⟩, hXw, hno⟩ rfl rfl
    rw [List.getElem?_zipIdx] at hx
    obtain ⟨c, hc, rfl⟩ : ∃ c, l[k]? = some c ∧ (c, k) = x := by
      cases h : l[k]? with
      | none => rw [h] at hx; cases hx
      | some c => rw [h] at hx; exact ⟨c, rfl, by simpa using hx⟩
    have q0 := o0.cell 0 rfl
    have q1 := o1.cell 0 rfl
    have hfr := o1.free 0
    have hcall := hide (index1_c c.1 n bn W (hn.ext hXw))
    have hzW := hXw.size
    have hat : Hid (c.1 = n → ixC l n = k) := fun e => ixC_at hc e hno
    have hgo : Hid (¬ c.1 = n → ∀ d ∈ l.take (k + 1), d.1 ≠ n) := fun e d hd => by
      rw [List.take_add_one, hc] at hd
      rcases List.mem_append.1 hd with hd | hd
      · exact hno d hd
      · obtain rfl : d = c := by simpa using hd
        exact e
    have hmem : ∀ y ∈ [w.heap.size + 1], ∃ T vs, Ob W y T vs := by intro y hy; simp at hy; subst hy; exact ⟨_, _, o1⟩
    replace hmem := hide hmem
    replace hno := hide hno
    have hltW := o1.lt
    haveI : In (w.heap.size + 1) W := ⟨hltW⟩
    obtain ⟨cn, ck⟩ := c
    by_cases he : cn = n
    · rw [decide_eq_true he] at hcall
      have hk := hide (hat.out he)
      clear hat hgo he hc hx
      gi_wp2_with (gi_at_call 76; (with_reducible refine seq_gi hcall.out ?_); intro g)
      refine ⟨keeps_fr (S := [w.heap.size + 1]) ((Fr.of_ext g.grown).setCell _ _ (.inl (by simp))) hmem.out, ⟨rfl, ?_⟩, (hXw.trans g.grown).setCell (p := ⟨w.heap.size + 1, 0, none⟩) (by simp) _⟩
      rw [hk.out]
      exact (o1.ext g.grown).set 0 _
    · rw [decide_eq_false he] at hcall
      have hk := hide (hgo.out he)
      clear hat hgo he hc hx
      gi_wp2_with (gi_at_call 76; (with_reducible refine seq_gi hcall.out ?_); intro g)
      exact ⟨keeps_ext g.grown, below_fr (S := []) (Fr.of_ext g.grown) hzW (by simp), ⟨o0.ext g.grown, o1.ext g.grown⟩, hXw.trans g.grown, hk.out⟩
  case done =>
    rintro D W hD ⟨⟨o0, o1⟩, hXw, hno⟩ hK
    rw [List.length_zipIdx, List.take_of_length_le (Nat.le_refl _)] at hno
    have hR := hide (ixC_none hno)
    have q1 := o1.cell 0 rfl
    have hfr := o1.free 0
    clear hno
    go_wp2
    have hK2 := (KeepsOthers.setCell W ⟨w.heap.size + 1, 0, none⟩ (.int .i64 (-1))).same D _ hK rfl
    have o2 : Ob (W.setCell ⟨w.heap.size + 1, 0, none⟩ (.int .i64 (-1))) (w.heap.size + 1) 3 [.int .i64 (-1)] := o1.set 0 _
    have q2 := (ob_put (o' := .deferred none) hK2 rfl o2).cell 0 rfl
    refine ret_mark hK2 (v := .int .i64 (-1)) ?_ ⟨by rw [hR.out], put_ext (hXw.setCell (p := ⟨w.heap.size + 1, 0, none⟩) (by simp) _) (by omega) _⟩
    simp [results, Try.f75, go_sem, q2]
  case stop =>
    rintro D c k W hD hk ⟨⟨rfl, o1⟩, hXw⟩ hK
    go_wp2
    have q2 := (ob_put (o' := .deferred none) hK rfl o1).cell 0 rfl
    refine ret_mark hK (v := .int .i64 (ixC l n)) ?_ ⟨rfl, put_ext hXw (by omega) _⟩
    simp [results, Try.f75, go_sem, q2]
end Go.Proofs.Ytkfdkjjocdbolaa
set_option linter.unusedVariables false
set_option linter.unusedSimpArgs false
namespace Go.Proofs.Ytkfdkjjocdbolaa
open Go.RowKit
attribute [local go_sem] GW.cell GW.frozen In.eq_true In.le_true In.ne In.ne' In.ne_add In.ne_add' In.lt_add Upto.le_true Upto.le_add Upto.lt_add Oper.semAt_some wide_depth wide_fn
set_option maxHeartbeats 1000000 in
theorem index_c (l : List Cl) (n : ByteArray) (v : Value) (w : World) (hC : Cw w [] v l) : Calls Try.prog 57 #[v, .string n] w fun e w' => e = .returned (.int .i64 (ixC l n)) ∧ Ext w w' := by
  have hf := hide (schFirst_c l n v (w.alloc (.cells #[.string n] 9)) (Sl.ext hC ((Ext.refl w).alloc _)) w.heap.size (Ob.new w _ [.string n]))
  obtain ⟨A, cap, rfl, hlc, hlm, -⟩ := cw_form hC
  generalize ixC l n = R at *
  clear hC
  go_enter Try.func57, Try.ntmps57
  go_wp2_with (go_at_call 75; (with_reducible refine seq_gw hf.out ?_); intro g)
  go_returns
  exact ⟨rfl, ((Ext.refl w).alloc _).trans g.grown⟩
set_option maxHeartbeats 4000000 in
set_option maxRecDepth 100000 in
theorem hasTwice_c (l : List Cl) (v : Value) (w : World) (hC : Cw w [] v l) : Calls Try.prog 37 #[v] w fun e w' => e = .returned (.bool (!apartB l)) ∧ Ext w w' := by
  obtain ⟨A, cap, rfl, hlc, hlm, -⟩ := cw_form hC
  unfold maxLen at hlm
  obtain ⟨R, hR⟩ : ∃ R, R = !apartB l := ⟨_, rfl⟩
  rw [← hR]
  have hR1 : Hid (Apart l l.length → R = false) := fun h => by rw [hR, apartB_true.2 h]; rfl
  have hR2 : Hid (¬ Apart l l.length → R = true) := fun h => by rw [hR, Bool.not_eq_true', ← Bool.not_eq_true]; exact fun e => h (apartB_true.1 e)
  clear hR
  refine calls_marks Try.func37 rfl ?_
  simp only [Try.ntmps37, List.size_toArray, List.length_cons, List.length_nil, Nat.reduceAdd, Nat.reduceSub, Array.replicate_succ, Array.replicate_zero, List.push_toArray, List.append_toArray, List.nil_append, List.cons_append]
  obtain ⟨Wb, hWb⟩ : ∃ Wb, Wb = (w.alloc (.cells #[.slice A l.length cap] 31)).alloc (.cells #[.bool false] 4) := ⟨_, rfl⟩
  have hX0 : Ext w Wb := by rw [hWb]; exact ((Ext.refl w).alloc _).alloc _
  have ob0 : Ob Wb w.heap.size 31 [.slice A l.length cap] := by rw [hWb]; exact (Ob.new w _ [.slice A l.length cap]).alloc _
  have ob1 : Ob Wb (w.heap.size + 1) 4 [.bool false] := by rw [hWb]; have := Ob.new (w.alloc (.cells #[.slice A l.length cap] 31)) 4 [.bool false]; rwa [World.size_alloc] at this
  have hWs : Wb.heap.size = w.heap.size + 2 := by rw [hWb]; simp
  replace hX0 := hide hX0
  replace hC := hide hC
  go_wp2_with (go_at_call 56; refine (names_c _ _ _ _).mono ?_; rintro ee w1 ⟨b, rfl, hb, hle, hX1⟩)
  rw [← hWb] at hle hX1
  clear hWb
  have hX2 := hide (hX0.out.trans hX1)
  have hz2 := hX2.out.size
  have hz1 := hX1.size
  refine wp_range (xs := l.zipIdx) rfl (enters_of Try.func74 (by kernel_rfl) rfl) (names_seq l _ w w1 b hC.out hX2.out hb) (Ext.refl _) hX2.out.size (by rintro x vs W rfl; rfl) (fun x vs => Stab.pure _)
    (fun k W => (Ob W w.heap.size 31 [.slice A l.length cap] ∧ Ob W (w.heap.size + 1) 4 [.bool false]) ∧ (Ext w W ∧ Apart l k))
    (fun c k W => ((c = .ret ∧ ¬ Apart l l.length) ∧ Ob W (w.heap.size + 1) 4 [.bool true]) ∧ Ext w W)
    (fun k => ((Stab.ob _ _ _).and (Stab.ob _ _ _)).and ((Stab.of_ext hz2).and (Stab.pure _)))
    (fun c k => ((Stab.pure _).and (Stab.ob _ _ _)).and (Stab.of_ext hz2))
    ⟨⟨ob0.ext hX1, ob1.ext hX1⟩, hX2.out, apart_zero l⟩
    (fun k x vs a' _ => a' = { tmps := #[.slice A l.length cap, .pointer (some ⟨w.heap.size, 0, none⟩), .pointer (some ⟨w.heap.size + 1, 0, none⟩), .int .i64 x.2, .string x.1.1, .slice A l.length cap, .func (.func 74) #[] #[.pointer (some ⟨b, 0, none⟩)], .int .i64 x.2, .string x.1.1, undef, undef, undef, undef, undef], defers := [] })
    (fun k x vs a' => Stab.pure _) ?assign ?body ?done ?stop
  case assign =>
    rintro L k x vs W K _ rfl hK
    gi_wp2
    exact hK _ _ (Ext.refl _) rfl
  case body =>
    rintro L k x vs a' W hx ⟨⟨o0, o1⟩, hXw, hno⟩ rfl rfl
    rw [List.getElem?_zipIdx] at hx
    obtain ⟨c, hc, rfl⟩ : ∃ c, l[k]? = some c ∧ (c, k) = x := by
      cases h : l[k]? with
      | none => rw [h] at hx; cases hx
      | some c => rw [h] at hx; exact ⟨c, rfl, by simpa using hx⟩
    have q0 := o0.cell 0 rfl
    have q1 := o1.cell 0 rfl
    have hfr := o1.free 0
    have hcall := hide (index_c l c.1 _ W (Sl.ext hC.out hXw))
    have hzW := hXw.size
    have hmem : ∀ y ∈ [w.heap.size + 1], ∃ T vs, Ob W y T vs := by intro y hy; simp at hy; subst hy; exact ⟨_, _, o1⟩
    replace hmem := hide hmem
    have hkl := (List.getElem?_eq_some_iff.1 hc).1
    obtain ⟨j, hj, hjk, hiff⟩ := ixC_le hc
    rw [hj] at hcall
    have hltW := o1.lt
    haveI : In (w.heap.size + 1) W := ⟨hltW⟩
    haveI : In w.heap.size W := ⟨o0.lt⟩
    by_cases he : j < k
    · have hna : Hid (¬ Apart l l.length) := fun hA => by have := hiff.1 (hA k hkl c hc); omega
      replace hno := hide hno
      have heI : (j : Int) < k := by omega
      obtain ⟨cn, ck⟩ := c
      clear hc hx hiff hj
      gi_wp2_with (gi_at_call 57; (with_reducible refine seq_gi hcall.out ?_); intro g)
      exact ⟨keeps_fr (S := [w.heap.size + 1]) ((Fr.of_ext g.grown).setCell _ _ (.inl (by simp))) hmem.out, ⟨⟨rfl, hna.out⟩, (o1.ext g.grown).set 0 _⟩, (hXw.trans g.grown).setCell (p := ⟨w.heap.size + 1, 0, none⟩) (by simp) _⟩
    · have hna : Hid (Apart l (k + 1)) := apart_step hno hc (hiff.2 (by omega))
      replace hno := hide hno
      have heI : (k : Int) ≤ j := by omega
      obtain ⟨cn, ck⟩ := c
      clear hc hx hiff hj
      gi_wp2_with (gi_at_call 57; (with_reducible refine seq_gi hcall.out ?_); intro g)
      exact ⟨keeps_ext g.grown, below_fr (S := []) (Fr.of_ext g.grown) hzW (by simp), ⟨o0.ext g.grown, o1.ext g.grown⟩, hXw.trans g.grown, hna.out⟩
  case done =>
    rintro D W hD ⟨⟨o0, o1⟩, hXw, hno⟩ hK
    rw [List.length_zipIdx] at hno
    have hRf := hide (hR1.out hno)
    have q1 := o1.cell 0 rfl
    have hfr := o1.free 0
    clear hno
    go_wp2
    have hK2 := (KeepsOthers.setCell W ⟨w.heap.size + 1, 0, none⟩ (.bool false)).same D _ hK rfl
    have o2 : Ob (W.setCell ⟨w.heap.size + 1, 0, none⟩ (.bool false)) (w.heap.size + 1) 4 [.bool false] := o1.set 0 _
    have q2 := (ob_put (o' := .deferred none) hK2 rfl o2).cell 0 rfl
    refine ret_mark hK2 (v := .bool false) ?_ ⟨by rw [hRf.out], put_ext (hXw.setCell (p := ⟨w.heap.size + 1, 0, none⟩) (by simp) _) (by omega) _⟩
    simp [results, Try.f37, go_sem, q2]
  case stop =>
    rintro D c k W hD hk ⟨⟨⟨rfl, hna⟩, o1⟩, hXw⟩ hK
    have hRf := hide (hR2.out hna)
    go_wp2
    have q2 := (ob_put (o' := .deferred none) hK rfl o1).cell 0 rfl
    refine ret_mark hK (v := .bool true) ?_ ⟨by rw [hRf.out], put_ext hXw (by omega) _⟩
    simp [results, Try.f37, go_sem, q2]
/-- A column, as a value. -/
abbrev col (c : Cl) : Value := .agg #[.string c.1, .int .i64 c.2]
set_option maxHeartbeats 2000000 in
theorem isNoneC_c (c : Cl) (w : World) : Calls Try.prog 36 #[.agg #[.string c.1, .int .i64 c.2]] w fun e w' => e = .returned (.bool (!okC c)) ∧ Ext w w' := by
  obtain ⟨n, k⟩ := c
  have hn := hide (fun w => name_c n w)
  obtain ⟨R, hR⟩ : ∃ R, R = !okC (n, k) := ⟨_, rfl⟩
  rw [← hR]
  unfold okC at hR
  simp only at hR
  generalize nameB n = m at *
  by_cases h1 : k = 1
  · subst h1
    rw [decide_eq_true (.inl rfl), Bool.true_and] at hR
    replace hR := hide hR
    go_enter Try.func36, Try.ntmps36
    go_wp2_with (go_at_call 55; (with_reducible refine seq_gw (hn.out _) ?_); intro g)
    go_returns
    exact ⟨by rw [hR.out]; first | rfl | simp, ((Ext.refl w).alloc _).trans g.grown⟩
  by_cases h2 : k = 2
  · subst h2
    rw [decide_eq_true (.inr rfl), Bool.true_and] at hR
    replace hR := hide hR
    clear h1
    go_enter Try.func36, Try.ntmps36
    go_wp2_with (go_at_call 55; (with_reducible refine seq_gw (hn.out _) ?_); intro g)
    go_returns
    exact ⟨by rw [hR.out]; first | rfl | simp, ((Ext.refl w).alloc _).trans g.grown⟩
  · rw [decide_eq_false (by omega), Bool.false_and] at hR
    replace hR := hide hR
    have b1 : (k == 1) = false := by rw [beq_eq_false_iff_ne]; exact h1
    have b2 : (k == 2) = false := by rw [beq_eq_false_iff_ne]; exact h2
    clear hn
    go_enter Try.func36, Try.ntmps36
    go_wp2_with fail
    go_returns
    exact ⟨by rw [hR.out]; first | rfl | simp, (Ext.refl w).alloc _⟩
set_option maxHeartbeats 2000000 in
theorem indexFuncC_c (l : List Cl) (v : Value) (w : World) (h : Cw w [] v l) : Calls Try.prog 54 #[v, .func (.func 36) #[] #[]] w fun e w' => e = .returned (.int .i64 (idxP okC 0 l)) ∧ Ext w w' := by
  obtain ⟨A, cap, rfl, hl, hm, hat⟩ := cw_form h
  unfold maxLen at hm
  replace hat := hide hat
  clear h
  obtain ⟨R, hR⟩ : ∃ R, R = idxP okC 0 l := ⟨_, rfl⟩
  rw [← hR]
  replace hR := hide hR
  go_enter Try.func54, Try.ntmps54
  go_wp2_with fail
  go_loopg [8] l.length (fun gh i wr => ∃ (k : Nat), i = .int .i64 k ∧ k + gh = l.length ∧ Hid (R = idxP okC k (l.drop k)) ∧ Ext w wr)
  case atStart => exact ⟨0, rfl, by omega, by simpa using hR, Ext.refl w⟩
  case round =>
    obtain ⟨k, rfl, hk, hRk, hX⟩ := hrel
    clear hR
    by_cases hlt : k < l.length
    · obtain ⟨x, hx⟩ : ∃ x, l[k]? = some x := ⟨_, List.getElem?_eq_getElem hlt⟩
      obtain ⟨b, o, rfl, -, hb, c0, c1⟩ := hat.out k x hx
      have k0 := cell_later hX c0
      have k1 := cell_later hX c1
      have hbr : b < wr.heap.size := block_lt_of_cell k0
      have hin := hide (fun w => isNoneC_c x w)
      have hR2 := hRk.out
      rw [drop_cons hx] at hR2
      clear c0 c1 hat hx
      cases hmx : okC x
      · rw [hmx] at hin
        rw [idxP_no hmx] at hR2
        replace hR2 := hide hR2
        replace hmx := hide hmx
        obtain ⟨xn, xk⟩ := x
        go_wp2_with (go_at_call 36; (with_reducible refine seq_gw (hin.out _) ?_); intro g)
        go_returns
        exact ⟨by rw [hR2.out]; rfl, hX.trans g.grown⟩
      · rw [hmx] at hin
        rw [idxP_yes hmx] at hR2
        replace hR2 := hide hR2
        replace hmx := hide hmx
        obtain ⟨xn, xk⟩ := x
        go_wp2_with (go_at_call 36; (with_reducible refine seq_gw (hin.out _) ?_); intro g)
        go_roundg (l.length - (k + 1))
        case measure => omega
        case rel => exact ⟨k + 1, by go_num, by omega, hR2, hX.trans g.grown⟩
    · have hk' : k = l.length := by omega
      have hge : (l.length : Int) ≤ k := by omega
      have hR2 := hRk.out
      rw [hk', List.drop_length] at hR2
      replace hR2 := hide hR2
      replace hk' := hide hk'
      go_wp2_with fail
      go_returns
      exact ⟨by rw [hR2.out]; rfl, hX⟩
set_option maxHeartbeats 1000000 in
theorem containsFuncC_c (l : List Cl) (v : Value) (w : World) (h : Cw w [] v l) : Calls Try.prog 35 #[v, .func (.func 36) #[] #[]] w fun e w' => e = .returned (.bool (!l.all okC)) ∧ Ext w w' := by
  have hc := hide (indexFuncC_c l v w h)
  have e := hide (idxP_ge okC 0 l)
  generalize idxP okC 0 l = z at *
  generalize l.all okC = m at *
  clear h
  go_enter Try.func35, Try.ntmps35
  go_wp2_with (go_at_call 54; (with_reducible refine seq_gw hc.out ?_); intro g)
  go_returns
  exact ⟨by rw [← e.out]; rfl, g.grown⟩
set_option maxHeartbeats 2000000 in
theorem mayS_c (l : List Cl) (v : Value) (w : World) (h : Cw w [] v l) : Calls Try.prog 16 #[v] w fun e w' => e = .returned (.bool (mayS l)) ∧ Ext w w' := by
  have hc := hide (containsFuncC_c l v w h)
  have ht := hide (fun w' (hX : Ext w w') => hasTwice_c l v w' (Sl.ext h hX))
  obtain ⟨A, cap, rfl, hl, hm, -⟩ := cw_form h
  clear h
  by_cases h0 : l.length = 0
  · have e : mayS l = false := by unfold mayS; rw [decide_eq_false (by omega), Bool.false_and]
    rw [e]
    have h0I : (l.length : Int) = 0 := by omega
    clear e hc ht
    replace h0 := hide h0
    go_enter Try.func16, Try.ntmps16
    go_wp2_with fail
    go_returns
    exact ⟨rfl, Ext.refl w⟩
  have h0I : ((l.length : Int) == 0) = false := by rw [beq_eq_false_iff_ne]; omega
  by_cases h8 : l.length ≤ 8
  · have e : mayS l = (l.all okC && apartB l) := by unfold mayS; rw [decide_eq_true ⟨by omega, h8⟩, Bool.true_and]
    rw [e]
    have h8' : (l.length : Int) ≤ 8 := by omega
    clear e h0
    generalize apartB l = ap at *
    cases ha : l.all okC
    · rw [ha] at hc
      clear ha ht
      go_enter Try.func16, Try.ntmps16
      go_wp2_with (go_at_call 35; (with_reducible refine seq_gw hc.out ?_); intro g)
      go_returns
      exact ⟨by first | rfl | simp, g.grown⟩
    · rw [ha] at hc
      clear ha
      go_enter Try.func16, Try.ntmps16
      go_wp2_with (first | (go_at_call 35; (with_reducible refine seq_gw hc.out ?_); intro g) | (go_at_call 37; (with_reducible refine seq_gw' (ht.out _ g.grown) ?_); intro g2))
      go_returns
      exact ⟨by first | rfl | simp, g2.grown⟩
  · have e : mayS l = false := by unfold mayS; rw [decide_eq_false (by omega), Bool.false_and]
    rw [e]
    have h8' : (8 : Int) < l.length := by omega
    clear e hc ht
    go_enter Try.func16, Try.ntmps16
    go_wp2_with fail
    go_returns
    exact ⟨rfl, Ext.refl w⟩
end Go.Proofs.Ytkfdkjjocdbolaa
set_option linter.unusedVariables false
set_option linter.unusedSimpArgs false
namespace Go.Proofs.Ytkfdkjjocdbolaa
open Go.RowKit
attribute [local go_sem] GW.cell GW.frozen In.eq_true In.le_true In.ne In.ne' In.ne_add In.ne_add' In.lt_add Upto.le_true Upto.le_add Upto.lt_add
theorem neq_col (k k' : Int) (s t : ByteArray) (w : World) : (binOp .neq 58 (.agg #[.string s, .int .i64 k]) (.agg #[.string t, .int .i64 k'])).run Try.prog w = .ok (.bool (!(s.toList == t.toList && k == k'))) w := by
  by_cases h1 : k = k' <;> by_cases h3 : s.toList = t.toList <;> simp [go_sem, h1, h3]
theorem neqc_same (s : ByteArray) (k : Int) (w : World) : (binOp .neq 58 (.agg #[.string s, .int .i64 k]) (.agg #[.string s, .int .i64 k])).run Try.prog w = .ok (.bool false) w := by
  rw [neq_col]; simp
theorem neqc_other {k k' : Int} {s t : ByteArray} (h : ¬ ((s, k) = (t, k'))) (w : World) : (binOp .neq 58 (.agg #[.string s, .int .i64 k]) (.agg #[.string t, .int .i64 k'])).run Try.prog w = .ok (.bool true) w := by
  rw [neq_col]
  congr 2
  rw [Bool.not_eq_true', ← Bool.not_eq_true]
  intro h'
  simp only [Bool.and_eq_true, beq_iff_eq, toList_iff] at h'
  obtain ⟨rfl, rfl⟩ := h'
  exact h rfl
set_option maxHeartbeats 1000000 in
theorem fits1_c (x : Cl) (y : Vl) (w : World) : Calls Try.prog 64 #[.agg #[.string x.1, .int .i64 x.2], .agg #[.int .i64 y.1, .int .i64 y.2.1, .string y.2.2]] w fun e w' => e = .returned (.bool (x.2 == y.1)) ∧ Ext w w' := by
  obtain ⟨xn, xk⟩ := x
  obtain ⟨yk, yv, yn⟩ := y
  go_enter Try.func64, Try.ntmps64
  go_wp2_with fail
  go_returns
  exact ⟨rfl, ((Ext.refl w).alloc _).alloc _⟩
set_option maxHeartbeats 4000000 in
set_option maxRecDepth 100000 in
theorem equalFunc2_c {l : List Cl} {m : List Vl} {v u : Value} {w : World} (hl : Cw w [] v l) (hm : Rw w [] u m) : Calls Try.prog 63 #[v, u, .func (.func 64) #[] #[]] w fun e w' => e = .returned (.bool (eqP (fun (x : Cl) (y : Vl) => x.2 == y.1) l m)) ∧ Ext w w' := by
  obtain ⟨A, cap, rfl, hlc, hlm, hat⟩ := cw_form hl
  obtain ⟨B, cap2, rfl, hmc, hmm, hbt⟩ := rw_form hm
  unfold maxLen at hlm hmm
  clear hl hm
  replace hat := hide hat
  replace hbt := hide hbt
  obtain ⟨R, hR⟩ : ∃ R, R = eqP (fun (x : Cl) (y : Vl) => x.2 == y.1) l m := ⟨_, rfl⟩
  rw [← hR]
  by_cases hn : l.length = m.length
  · replace hR := hide hR
    obtain ⟨n, hln⟩ : ∃ n, n = l.length := ⟨_, rfl⟩
    have hmn : n = m.length := by omega
    rw [← hln] at hlc ⊢
    rw [← hmn] at hmc ⊢
    have hlI := hide hln
    have hmI := hide hmn
    clear hn hln hmn
    go_enter Try.func63, Try.ntmps63
    go_wp2_with fail
    go_loopg [17] n (fun gh i wr => ∃ (k : Nat), i = .int .i64 k ∧ k + gh = n ∧ Hid (R = eqP (fun (x : Cl) (y : Vl) => x.2 == y.1) (l.drop k) (m.drop k)) ∧ Ext w wr)
    case atStart => exact ⟨0, rfl, by omega, hR, Ext.refl w⟩
    case round =>
      obtain ⟨k, rfl, hk, hRk, hX⟩ := hrel
      clear hR
      by_cases hlt : k < n
      · obtain ⟨x, hx⟩ : ∃ x, l[k]? = some x := ⟨_, List.getElem?_eq_getElem (by have := hlI.out; omega)⟩
        obtain ⟨y, hy⟩ : ∃ y, m[k]? = some y := ⟨_, List.getElem?_eq_getElem (by have := hmI.out; omega)⟩
        obtain ⟨b, o, rfl, -, hb, c0, c1⟩ := hat.out k x hx
        obtain ⟨b', o', rfl, -, hb', d0, d1, d2⟩ := hbt.out k y hy
        have k0 := cell_later hX c0
        have k1 := cell_later hX c1
        have j0 := cell_later hX d0
        have j1 := cell_later hX d1
        have j2 := cell_later hX d2
        have hbr : b < wr.heap.size := block_lt_of_cell k0
        have hbr' : b' < wr.heap.size := block_lt_of_cell j0
        have hR2 := hRk.out
        rw [drop_cons hx, drop_cons hy] at hR2
        obtain ⟨xn, xk⟩ := x
        obtain ⟨yk, yv, yn⟩ := y
        clear c0 c1 d0 d1 d2 hat hbt hx hy hlI hmI hRk
        have hq := fun w => fits1_c (xn, xk) (yk, yv, yn) w
        simp only at hq
        replace hq := hide hq
        cases hp : (xk == yk)
        · rw [eqP_no (p := (fun (x : Cl) (y : Vl) => x.2 == y.1)) (x := (xn, xk)) (y := (yk, yv, yn)) hp] at hR2
          rw [hp] at hq
          replace hR2 := hide hR2
          replace hp := hide hp
          go_wp2_with (go_at_call 64; (with_reducible refine seq_gw (hq.out _) ?_); intro g)
          go_returns
          exact ⟨by rw [hR2.out]; rfl, ((hX.alloc _).alloc _).trans g.grown⟩
        · rw [eqP_yes (p := (fun (x : Cl) (y : Vl) => x.2 == y.1)) (x := (xn, xk)) (y := (yk, yv, yn)) hp] at hR2
          rw [hp] at hq
          replace hR2 := hide hR2
          replace hp := hide hp
          go_wp2_with (go_at_call 64; (with_reducible refine seq_gw (hq.out _) ?_); intro g)
          go_roundg (n - (k + 1))
          case measure => omega
          case rel => exact ⟨k + 1, by go_num, by omega, hR2, ((hX.alloc _).alloc _).trans g.grown⟩
      · have hk' : k = n := by omega
        have hge : (n : Int) ≤ k := by omega
        have hR2 := hRk.out
        rw [List.drop_eq_nil_of_le (by have := hlI.out; omega), List.drop_eq_nil_of_le (by have := hmI.out; omega)] at hR2
        replace hR2 : R = true := hR2
        replace hR2 := hide hR2
        replace hk' := hide hk'
        go_wp2_with fail
        go_returns
        exact ⟨by rw [hR2.out]; rfl, hX⟩
  · have hR2 := hR.trans (eqP_len hn)
    replace hR2 := hide hR2
    have hnI : ¬ (l.length : Int) = m.length := by omega
    clear hR hn
    go_enter Try.func63, Try.ntmps63
    go_wp2_with fail
    go_returns
    exact ⟨by rw [hR2.out]; rfl, Ext.refl w⟩
end Go.Proofs.Ytkfdkjjocdbolaa
set_option linter.unusedVariables false
set_option linter.unusedSimpArgs false
namespace Go.Proofs.Ytkfdkjjocdbolaa
open Go.RowKit
attribute [local go_sem] GW.cell GW.frozen In.eq_true In.le_true In.ne In.ne' In.ne_add In.ne_add' In.lt_add Upto.le_true Upto.le_add Upto.lt_add
set_option maxHeartbeats 4000000 in
set_option maxRecDepth 100000 in
theorem refMayS_c (l : List Cl) (v : Value) (w : World) (h : Cw w [] v l) : Calls Try.prog 14 #[v] w fun e w' => e = .returned (.bool (mayS l)) ∧ Ext w w' := by
  obtain ⟨A, cap, rfl, hl, hm, hat⟩ := cw_form h
  unfold maxLen at hm
  replace hat := hide hat
  clear h
  by_cases h0 : l.length = 0
  · have e : mayS l = false := by unfold mayS; rw [decide_eq_false (by omega), Bool.false_and]
    rw [e]
    have h0I : (l.length : Int) = 0 := by omega
    clear e
    replace h0 := hide h0
    go_enter Try.func14, Try.ntmps14
    go_wp2_with fail
    go_returns
    exact ⟨rfl, Ext.refl w⟩
  have h0I : ((l.length : Int) == 0) = false := by rw [beq_eq_false_iff_ne]; omega
  by_cases h8 : l.length ≤ 8
  · obtain ⟨R, hR⟩ : ∃ R, R = mayS l := ⟨_, rfl⟩
    rw [← hR]
    have h8' : (l.length : Int) ≤ 8 := by omega
    have hR1 : Hid (∀ c ∈ l, okC c = false → R = false) := fun c hc h => by
      rw [hR, ← Bool.not_eq_true, mayS_iff]; rintro ⟨-, h2, -⟩; rw [h2 c hc] at h; cases h
    have hR2 : Hid (¬ Apart l l.length → R = false) := fun h => by rw [hR, ← Bool.not_eq_true, mayS_iff]; exact fun h3 => h h3.2.2
    have hR3 : Hid ((∀ c ∈ l, okC c = true) → Apart l l.length → R = true) := fun h1 h2 => by rw [hR, mayS_iff]; exact ⟨⟨by omega, h8⟩, h1, h2⟩
    clear hR h0
    go_enter Try.func14, Try.ntmps14
    go_wp2_with fail
    go_loopg [3] l.length (fun gh i wr => ∃ (k : Nat), i = .int .i64 k ∧ k + gh = l.length ∧ Hid (∀ c ∈ l.take k, okC c = true) ∧ Hid (Apart l k) ∧ Ext w wr)
    case atStart => exact ⟨0, rfl, by omega, by intro y hy; simp at hy, apart_zero l, Ext.refl w⟩
    case round =>
      obtain ⟨k, rfl, hk, hT, hA, hX⟩ := hrel
      by_cases hlt : k < l.length
      · obtain ⟨x, hx⟩ : ∃ x, l[k]? = some x := ⟨_, List.getElem?_eq_getElem hlt⟩
        obtain ⟨b, o, rfl, -, hb, c0, c1⟩ := hat.out k x hx
        have k0 := cell_later hX c0
        have k1 := cell_later hX c1
        have hbr : b < wr.heap.size := block_lt_of_cell k0
        have hin := hide (fun w => refName_c x.1 w)
        have hbad := hide (hR1.out x (List.mem_of_getElem? hx))
        have hx' := hide hx
        obtain ⟨xn, xk⟩ := x
        have hok : okC (xn, xk) = (decide (xk = 1 ∨ xk = 2) && nameB xn) := rfl
        rw [hok] at hbad
        have hxok : Hid (nameB xn = true → (xk = 1 ∨ xk = 2) → ∀ c ∈ l.take (k + 1), okC c = true) := fun h1 h2 c hc => by
          rw [List.take_add_one, hx] at hc
          rcases List.mem_append.1 hc with hc | hc
          · exact hT.out c hc
          · obtain rfl : c = (xn, xk) := by simpa using hc
            rw [hok, h1, decide_eq_true h2]; rfl
        clear c0 c1 hx hok
        simp only at hin
        generalize nameB xn = nb at *
        cases nb
        · have hf := hide (hbad.out (by rw [Bool.and_false]))
          clear hxok hbad
          go_wp2_with (go_at_call 33; (with_reducible refine seq_gw (hin.out _) ?_); intro g)
          go_returns
          exact ⟨by rw [hf.out]; rfl, hX.trans g.grown⟩
        by_cases hk12 : ¬ (xk = 1 ∨ xk = 2)
        · have hf := hide (hbad.out (by rw [decide_eq_false hk12, Bool.false_and]))
          have b1 : (xk != 1) = true := by rw [bne_iff_ne]; exact fun e => hk12 (.inl e)
          have b2 : (xk != 2) = true := by rw [bne_iff_ne]; exact fun e => hk12 (.inr e)
          clear hxok hbad hk12
          haveI : In b wr := ⟨hbr⟩
          go_wp2_with (go_at_call 33; (with_reducible refine seq_gw (hin.out _) ?_); intro g)
          go_returns
          exact ⟨by rw [hf.out]; rfl, hX.trans g.grown⟩
        replace hk12 := Classical.not_not.1 hk12
        replace hxok := hide (hxok.out rfl hk12)
        clear hbad
        haveI : In b wr := ⟨hbr⟩
        cases b1 : (xk != 1)
        · clear hk12
          go_wp2_with (go_at_call 33; (with_reducible refine seq_gw (hin.out _) ?_); intro g)
          have hXg := hide (hX.trans g.grown)
          go_loopg [4] k (fun gh2 i2 wr2 => ∃ (j : Nat), i2 = .int .i64 j ∧ j + gh2 = k ∧ Hid (∀ d ∈ l.take j, d.1 ≠ xn) ∧ Ext w wr2)
          case atStart => exact ⟨0, rfl, by omega, by intro y hy; simp at hy, hXg.out⟩
          case round =>
            obtain ⟨j, rfl, hj, hD, hX2⟩ := hrel
            by_cases hjk : j < k
            · obtain ⟨y, hy⟩ : ∃ y, l[j]? = some y := ⟨_, List.getElem?_eq_getElem (by omega)⟩
              obtain ⟨b', o', e', -, -, d0, d1⟩ := hat.out j y hy
              obtain ⟨b'', o'', e'', -, -, f0, f1⟩ := hat.out k _ hx'.out
              cases e'
              cases e''
              have j0 := cell_later hX2 d0
              have j1 := cell_later hX2 d1
              have m0 := cell_later hX2 f0
              have hbr2 : b < _ := block_lt_of_cell j0
              by_cases hyn : y.1 = xn
              · have hf := hide (hR2.out (apart_not hx'.out hlt (List.mem_of_getElem? (show (l.take k)[j]? = some y by rw [List.getElem?_take, if_pos hjk]; exact hy)) hyn))
                obtain ⟨yn, yk⟩ := y
                simp only at hyn
                subst hyn
                clear d0 d1 f0 f1 hy hxok hD
                go_wp2_with fail
                go_quiet (fail)
                go_wp2_with fail
                go_returns
                exact ⟨by rw [hf.out]; rfl, hX2.drewN _⟩
              · have hD' : Hid (∀ d ∈ l.take (j + 1), d.1 ≠ xn) := by
                  intro d hd
                  rw [List.take_add_one, hy] at hd
                  rcases List.mem_append.1 hd with hd | hd
                  · exact hD.out d hd
                  · obtain rfl : d = y := by simpa using hd
                    exact hyn
                have h2 := str_ne hyn
                obtain ⟨yn, yk⟩ := y
                clear d0 d1 f0 f1 hy hxok hD hyn
                go_wp2_with fail
                go_quiet (fail)
                go_wp2_with fail
                go_roundg (k - (j + 1))
                case measure => omega
                case rel => exact ⟨j + 1, by go_num, by omega, hD', hX2.drewN _⟩
            · have hj' : j = k := by omega
              have hge : (k : Int) ≤ j := by omega
              have hA' : Hid (Apart l (k + 1)) := apart_step hA.out hx'.out (by rw [← hj']; exact hD.out)
              replace hj' := hide hj'
              clear hD
              go_wp2_with fail
              go_roundg (l.length - (k + 1))
              case measure => omega
              case rel => exact ⟨k + 1, by go_num, by omega, hxok, hA', hX2⟩
        · have b2 : (xk != 2) = false := by
            rw [bne_iff_ne] at b1
            rw [bne_eq_false_iff_eq]
            exact hk12.resolve_left b1
          clear hk12
          go_wp2_with (go_at_call 33; (with_reducible refine seq_gw (hin.out _) ?_); intro g)
          have hXg := hide (hX.trans g.grown)
          go_loopg [4] k (fun gh2 i2 wr2 => ∃ (j : Nat), i2 = .int .i64 j ∧ j + gh2 = k ∧ Hid (∀ d ∈ l.take j, d.1 ≠ xn) ∧ Ext w wr2)
          case atStart => exact ⟨0, rfl, by omega, by intro y hy; simp at hy, hXg.out⟩
          case round =>
            obtain ⟨j, rfl, hj, hD, hX2⟩ := hrel
            by_cases hjk : j < k
            · obtain ⟨y, hy⟩ : ∃ y, l[j]? = some y := ⟨_, List.getElem?_eq_getElem (by omega)⟩
              obtain ⟨b', o', e', -, -, d0, d1⟩ := hat.out j y hy
              obtain ⟨b'', o'', e'', -, -, f0, f1⟩ := hat.out k _ hx'.out
              cases e'
              cases e''
              have j0 := cell_later hX2 d0
              have j1 := cell_later hX2 d1
              have m0 := cell_later hX2 f0
              have hbr2 : b < _ := block_lt_of_cell j0
              by_cases hyn : y.1 = xn
              · have hf := hide (hR2.out (apart_not hx'.out hlt (List.mem_of_getElem? (show (l.take k)[j]? = some y by rw [List.getElem?_take, if_pos hjk]; exact hy)) hyn))
                obtain ⟨yn, yk⟩ := y
                simp only at hyn
                subst hyn
                clear d0 d1 f0 f1 hy hxok hD
                go_wp2_with fail
                go_quiet (fail)
                go_wp2_with fail
                go_returns
                exact ⟨by rw [hf.out]; rfl, hX2.drewN _⟩
              · have hD' : Hid (∀ d ∈ l.take (j + 1), d.1 ≠ xn) := by
                  intro d hd
                  rw [List.take_add_one, hy] at hd
                  rcases List.mem_append.1 hd with hd | hd
                  · exact hD.out d hd
                  · obtain rfl : d = y := by simpa using hd
                    exact hyn
                have h2 := str_ne hyn
                obtain ⟨yn, yk⟩ := y
                clear d0 d1 f0 f1 hy hxok hD hyn
                go_wp2_with fail
                go_quiet (fail)
                go_wp2_with fail
                go_roundg (k - (j + 1))
                case measure => omega
                case rel => exact ⟨j + 1, by go_num, by omega, hD', hX2.drewN _⟩
            · have hj' : j = k := by omega
              have hge : (k : Int) ≤ j := by omega
              have hA' : Hid (Apart l (k + 1)) := apart_step hA.out hx'.out (by rw [← hj']; exact hD.out)
              replace hj' := hide hj'
              clear hD
              go_wp2_with fail
              go_roundg (l.length - (k + 1))
              case measure => omega
              case rel => exact ⟨k + 1, by go_num, by omega, hxok, hA', hX2⟩
      · have hk' : k = l.length := by omega
        have hge : (l.length : Int) ≤ k := by omega
        have hf := hide (hR3.out (by have := hT.out; rwa [hk', List.take_length] at this) (by rw [← hk']; exact hA.out))
        replace hk' := hide hk'
        go_wp2_with fail
        go_returns
        exact ⟨by rw [hf.out]; rfl, hX⟩
  · have e : mayS l = false := by unfold mayS; rw [decide_eq_false (by omega), Bool.false_and]
    rw [e]
    have h8' : (8 : Int) < l.length := by omega
    clear e
    go_enter Try.func14, Try.ntmps14
    go_wp2_with fail
    go_returns
    exact ⟨rfl, Ext.refl w⟩
end Go.Proofs.Ytkfdkjjocdbolaa
set_option linter.unusedVariables false
set_option linter.unusedSimpArgs false
namespace Go.Proofs.Ytkfdkjjocdbolaa
open Go.RowKit
attribute [local go_sem] GW.cell GW.frozen In.eq_true In.le_true In.ne In.ne' In.ne_add In.ne_add' In.lt_add Upto.le_true Upto.le_add Upto.lt_add
theorem tCol : ElemT Try.prog 31 58 (.agg #[.string ⟨#[]⟩, .int .i64 0]) 2 24 := ElemT.mk' Try.underlying31 (by kernel_rfl) rfl (by omega)
theorem own_appC {w : World} {B : Nat} {v : Value} {l m : List Cl} (h : w.ownsRow B 58 2 v (l.length + m.length) (cl l ++ cl m)) : OwnC w B v (l ++ m) := by
  unfold OwnC; rw [List.length_append, cl_append]; exact h
theorem own_cw {w : World} {B : Nat} {S : List Nat} {v : Value} {l : List Cl} (h : OwnC w B v l) (hs : ∀ b, b ∈ S → b < B) : Cw w S v l := Sl.own h hs
/-- Schemas one behind the other: what is wrong, and the schema. -/
def joinSE (l m : List Cl) : Int := if mayS l && mayS m then (if 8 < l.length + m.length then 6 else if apartB (l ++ m) then 0 else 9) else 17
def joinSV (l m : List Cl) : List Cl := if joinSE l m = 0 then l ++ m else []
theorem joinS_no {l m : List Cl} (h : (mayS l && mayS m) = false) : joinSE l m = 17 ∧ joinSV l m = [] := by
  have e : joinSE l m = 17 := by unfold joinSE; rw [h]; rfl
  exact ⟨e, by unfold joinSV; rw [e, if_neg (by decide)]⟩
theorem joinS_long {l m : List Cl} (h : (mayS l && mayS m) = true) (h8 : 8 < l.length + m.length) : joinSE l m = 6 ∧ joinSV l m = [] := by
  have e : joinSE l m = 6 := by unfold joinSE; rw [if_pos h, if_pos h8]
  exact ⟨e, by unfold joinSV; rw [e, if_neg (by decide)]⟩
theorem joinS_twice {l m : List Cl} (h : (mayS l && mayS m) = true) (h8 : l.length + m.length ≤ 8) (ha : apartB (l ++ m) = false) : joinSE l m = 9 ∧ joinSV l m = [] := by
  have e : joinSE l m = 9 := by unfold joinSE; rw [if_pos h, if_neg (by omega), ha]; rfl
  exact ⟨e, by unfold joinSV; rw [e, if_neg (by decide)]⟩
theorem joinS_ok {l m : List Cl} (h : (mayS l && mayS m) = true) (h8 : l.length + m.length ≤ 8) (ha : apartB (l ++ m) = true) : joinSE l m = 0 ∧ joinSV l m = l ++ m := by
  have e : joinSE l m = 0 := by unfold joinSE; rw [if_pos h, if_neg (by omega), ha]; rfl
  exact ⟨e, by unfold joinSV; rw [if_pos e]⟩
theorem mayS_join {l m : List Cl} (hl : mayS l = true) (hm : mayS m = true) (h8 : l.length + m.length ≤ 8) : mayS (l ++ m) = apartB (l ++ m) := by
  obtain ⟨⟨h1, _⟩, h2, _⟩ := mayS_iff.1 hl
  obtain ⟨_, h3, _⟩ := mayS_iff.1 hm
  have ha : (l ++ m).all okC = true := by
    rw [List.all_eq_true]
    intro c hc
    rcases List.mem_append.1 hc with hc | hc
    · exact h2 c hc
    · exact h3 c hc
  unfold mayS
  rw [ha, decide_eq_true (by rw [List.length_append]; omega), Bool.true_and, Bool.true_and]
end Go.Proofs.Ytkfdkjjocdbolaa
