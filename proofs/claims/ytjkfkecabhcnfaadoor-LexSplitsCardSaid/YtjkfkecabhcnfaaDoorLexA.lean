/-
  A helper of ours: no claim of its own. Layer 19 (lex): bytes, closures, and how long a token is, by the code.
-/
import Derived.Test.YtjkfkecabhcnfaaDoorLexS
import Derived.Test.YtjkfkecabhcnfaaDoorRows
import Derived.Handy
import Derived.WalkSmall
import Derived.Deep.LoopGhost
import Derived.Lib.IndexBytes
import Derived.WalkSpells
import Derived.Lib.ConvBytes
set_option linter.unusedVariables false
set_option linter.unusedSimpArgs false
namespace Go.Proofs.YtjkfkecabhcnfaaDoor
open Go.RowKit
attribute [local go_sem] GW.cell GW.frozen In.eq_true In.le_true In.ne In.ne' In.ne_add In.ne_add' In.lt_add Upto.le_true Upto.le_add Upto.lt_add
theorem str_len (s : ByteArray) : s.data.toList.length = s.size := by rw [Array.length_toList]; rfl
theorem str_drop (s : ByteArray) (k : Nat) (h : k < s.size) : s.data.toList.drop k = s[k] :: s.data.toList.drop (k + 1) := by
  have hk : k < s.data.toList.length := by rw [str_len]; exact h
  rw [List.drop_eq_getElem_cons hk]; rfl
theorem isL_no {c : UInt8} (h : isL c = false) : c.toNat < 97 ∨ 122 < c.toNat := by
  by_cases h1 : 97 ≤ c.toNat ∧ c.toNat ≤ 122
  · rw [isL_iff.2 h1] at h; cases h
  · omega
theorem isD_no {c : UInt8} (h : isD c = false) : c.toNat < 48 ∨ 57 < c.toNat := by
  by_cases h1 : 48 ≤ c.toNat ∧ c.toNat ≤ 57
  · rw [isD_iff.2 h1] at h; cases h
  · omega
set_option maxHeartbeats 2000000 in
set_option maxRecDepth 100000 in
theorem isLetter_c (c : UInt8) (w : World) : Calls Tryd.prog 27 #[.int .u8 (c.toNat : Int)] w fun e w' => e = .returned (.bool (isL c)) ∧ Ext w w' := by
  generalize hb : isL c = b
  cases b
  · rcases isL_no hb with h | h
    · clear hb
      go_enter Tryd.func27, Tryd.ntmps27
      go_wp2_with fail
      go_returns
      exact ⟨rfl, Ext.refl w⟩
    · have h2 := h
      have h3 : 97 ≤ c.toNat := by omega
      clear hb
      go_enter Tryd.func27, Tryd.ntmps27
      go_wp2_with fail
      go_returns
      exact ⟨by first | rfl | (simp; omega), Ext.refl w⟩
  · obtain ⟨h1, h2⟩ := isL_iff.1 hb
    clear hb
    go_enter Tryd.func27, Tryd.ntmps27
    go_wp2_with fail
    go_returns
    exact ⟨by first | rfl | (simp; omega), Ext.refl w⟩
set_option maxHeartbeats 2000000 in
set_option maxRecDepth 100000 in
theorem isDigit_c (c : UInt8) (w : World) : Calls Tryd.prog 28 #[.int .u8 (c.toNat : Int)] w fun e w' => e = .returned (.bool (isD c)) ∧ Ext w w' := by
  generalize hb : isD c = b
  cases b
  · rcases isD_no hb with h | h
    · clear hb
      go_enter Tryd.func28, Tryd.ntmps28
      go_wp2_with fail
      go_returns
      exact ⟨rfl, Ext.refl w⟩
    · have h2 := h
      have h3 : 48 ≤ c.toNat := by omega
      clear hb
      go_enter Tryd.func28, Tryd.ntmps28
      go_wp2_with fail
      go_returns
      exact ⟨by first | rfl | (simp; omega), Ext.refl w⟩
  · obtain ⟨h1, h2⟩ := isD_iff.1 hb
    clear hb
    go_enter Tryd.func28, Tryd.ntmps28
    go_wp2_with fail
    go_returns
    exact ⟨by first | rfl | (simp; omega), Ext.refl w⟩
set_option maxHeartbeats 2000000 in
set_option maxRecDepth 100000 in
theorem refLetter_c (c : UInt8) (w : World) : Calls Tryd.prog 20 #[.int .u8 (c.toNat : Int)] w fun e w' => e = .returned (.bool (isL c)) ∧ Ext w w' := by
  generalize hb : isL c = b
  cases b
  · rcases isL_no hb with h | h
    · clear hb
      go_enter Tryd.func20, Tryd.ntmps20
      go_wp2_with fail
      go_returns
      exact ⟨rfl, Ext.refl w⟩
    · have h2 := h
      have h3 : 97 ≤ c.toNat := by omega
      clear hb
      go_enter Tryd.func20, Tryd.ntmps20
      go_wp2_with fail
      go_returns
      exact ⟨by first | rfl | (simp; omega), Ext.refl w⟩
  · obtain ⟨h1, h2⟩ := isL_iff.1 hb
    clear hb
    go_enter Tryd.func20, Tryd.ntmps20
    go_wp2_with fail
    go_returns
    exact ⟨by first | rfl | (simp; omega), Ext.refl w⟩
set_option maxHeartbeats 2000000 in
set_option maxRecDepth 100000 in
theorem refDigit_c (c : UInt8) (w : World) : Calls Tryd.prog 21 #[.int .u8 (c.toNat : Int)] w fun e w' => e = .returned (.bool (isD c)) ∧ Ext w w' := by
  generalize hb : isD c = b
  cases b
  · rcases isD_no hb with h | h
    · clear hb
      go_enter Tryd.func21, Tryd.ntmps21
      go_wp2_with fail
      go_returns
      exact ⟨rfl, Ext.refl w⟩
    · have h2 := h
      have h3 : 48 ≤ c.toNat := by omega
      clear hb
      go_enter Tryd.func21, Tryd.ntmps21
      go_wp2_with fail
      go_returns
      exact ⟨by first | rfl | (simp; omega), Ext.refl w⟩
  · obtain ⟨h1, h2⟩ := isD_iff.1 hb
    clear hb
    go_enter Tryd.func21, Tryd.ntmps21
    go_wp2_with fail
    go_returns
    exact ⟨by first | rfl | (simp; omega), Ext.refl w⟩
set_option maxHeartbeats 2000000 in
set_option maxRecDepth 100000 in
theorem len1_c (s : ByteArray) (k : Nat) (hk : k < s.size) (hs : s.size ≤ 9223372036854775807) (b : Nat) (w : World) (hb : Ob w b 9 [.string s]) : Calls Tryd.prog 26 #[.int .i64 k, .pointer (some ⟨b, 0, none⟩)] w fun e w' => e = .returned (.bool (pName k s[k])) ∧ Ext w w' := by
  have c0 := hb.cell 0 rfl
  have hlt := hb.lt
  haveI : In b w := ⟨hlt⟩
  clear hb
  have h1 := hide (fun w => isLetter_c s[k] w)
  have h2 := hide (fun w => isDigit_c s[k] w)
  unfold pName
  generalize isL s[k] = p at *
  generalize isD s[k] = q at *
  cases p
  · by_cases h0 : k = 0
    · subst h0
      rw [show (false || (decide (0 < 0) && q)) = false by simp]
      go_enter Tryd.func26, Tryd.ntmps26
      go_wp2_with (first | (go_at_call 27; (with_reducible refine seq_gw (h1.out _) ?_); intro g))
      go_returns
      exact ⟨rfl, g.grown⟩
    · have hpos : 0 < k := by omega
      rw [show (false || (decide (0 < k) && q)) = q by simp [hpos]]
      clear h0
      go_enter Tryd.func26, Tryd.ntmps26
      go_wp2_with (first | (go_at_call 27; (with_reducible refine seq_gw (h1.out _) ?_); intro g) | (go_at_call 28; (with_reducible refine seq_gw' (h2.out _) ?_); intro g2))
      go_returns
      exact ⟨rfl, g2.grown⟩
  · rw [Bool.true_or]
    go_enter Tryd.func26, Tryd.ntmps26
    go_wp2_with (first | (go_at_call 27; (with_reducible refine seq_gw (h1.out _) ?_); intro g))
    go_returns
    exact ⟨rfl, g.grown⟩
set_option maxHeartbeats 2000000 in
set_option maxRecDepth 100000 in
theorem len2_c (s : ByteArray) (k : Nat) (hk : k < s.size) (hs : s.size ≤ 9223372036854775807) (b : Nat) (w : World) (hb : Ob w b 9 [.string s]) : Calls Tryd.prog 29 #[.int .i64 k, .pointer (some ⟨b, 0, none⟩)] w fun e w' => e = .returned (.bool (pDig k s[k])) ∧ Ext w w' := by
  have c0 := hb.cell 0 rfl
  have hlt := hb.lt
  haveI : In b w := ⟨hlt⟩
  clear hb
  have h2 := hide (fun w => isDigit_c s[k] w)
  unfold pDig
  generalize isD s[k] = q at *
  go_enter Tryd.func29, Tryd.ntmps29
  go_wp2_with (first | (go_at_call 28; (with_reducible refine seq_gw (h2.out _) ?_); intro g2))
  go_returns
  exact ⟨rfl, g2.grown⟩
set_option maxHeartbeats 2000000 in
set_option maxRecDepth 100000 in
theorem quo1_c (s : ByteArray) (k : Nat) (hk : k < s.size) (hs : s.size ≤ 9223372036854775807) (b : Nat) (w : World) (hb : Ob w b 9 [.string s]) : Calls Tryd.prog 39 #[.int .i64 k, .pointer (some ⟨b, 0, none⟩)] w fun e w' => e = .returned (.bool (pQuo k s[k])) ∧ Ext w w' := by
  have c0 := hb.cell 0 rfl
  have hlt := hb.lt
  haveI : In b w := ⟨hlt⟩
  clear hb
  have e1 : ((s[k].toNat : Int) == 39) = decide (s[k] = 39) := by
    rw [Bool.eq_iff_iff, beq_iff_eq, decide_eq_true_iff]
    constructor
    · intro h; exact UInt8.toNat_inj.1 (by show s[k].toNat = 39; omega)
    · intro h; rw [h]; rfl
  have e2 : ((k : Int) == 0) = decide (k = 0) := by
    rw [Bool.eq_iff_iff, beq_iff_eq, decide_eq_true_iff]; omega
  unfold pQuo
  rw [← e1, ← e2]
  clear e1 e2
  go_enter Tryd.func39, Tryd.ntmps39
  go_wp2_with fail
  go_returns
  refine ⟨?_, Ext.refl w⟩
  first | rfl | simp
set_option maxHeartbeats 2000000 in
set_option maxRecDepth 100000 in
theorem run1_c (s : ByteArray) (hs : s.size ≤ 9223372036854775806) (b : Nat) (w : World) (hb : Ob w b 9 [.string s]) : Calls Tryd.prog 25 #[.string s, .func (.func 26) #[] #[.pointer (some ⟨b, 0, none⟩)]] w fun e w' => e = .returned (.int .i64 (runN pName 0 s.data.toList : Nat)) ∧ Ext w w' := by
  have hc := hide (fun k hk w' (hX : Ext w w') => len1_c s k hk (by omega) b w' (hb.ext hX))
  obtain ⟨R, hR⟩ : ∃ R, R = runN pName 0 s.data.toList := ⟨_, rfl⟩
  rw [← hR]
  replace hR := hide hR
  clear hb
  go_enter Tryd.func25, Tryd.ntmps25
  go_wp2_with fail
  go_loopg [5] s.size (fun gh i wr => ∃ (k : Nat), i = .int .i64 k ∧ k + gh = s.size ∧ Hid (R = k + runN pName k (s.data.toList.drop k)) ∧ Ext w wr)
  case atStart => exact ⟨0, rfl, by omega, (by show _ = _; rw [hR.out]; simp), Ext.refl w⟩
  case round =>
    obtain ⟨k, rfl, hk, hRk, hX⟩ := hrel
    clear hR
    by_cases hlt : k < s.size
    · have hcc := hide (hc.out k hlt wr hX)
      have hR2 := hRk.out
      rw [str_drop s k hlt, runN] at hR2
      generalize pName k s[k] = q at *
      cases q
      · rw [if_neg (by decide)] at hR2
        replace hR2 := hide hR2
        clear hRk
        go_wp2_with (first | (go_at_call 26; (with_reducible refine seq_gw hcc.out ?_); intro g))
        go_returns
        exact ⟨by rw [hR2.out]; simp, hX.trans g.grown⟩
      · rw [if_pos rfl] at hR2
        replace hR2 := hide hR2
        clear hRk
        go_wp2_with (first | (go_at_call 26; (with_reducible refine seq_gw hcc.out ?_); intro g))
        go_roundg (s.size - (k + 1))
        case measure => omega
        case rel => exact ⟨k + 1, by go_num, by omega, (by show _ = _; rw [hR2.out]; omega), hX.trans g.grown⟩
    · have hge : s.size ≤ k := by omega
      have hR2 := hRk.out
      rw [List.drop_of_length_le (by rw [str_len]; exact hge), runN] at hR2
      replace hR2 := hide hR2
      have hks : k = s.size := by omega
      clear hRk
      go_wp2_with fail
      go_returns
      exact ⟨by rw [hR2.out]; simp, hX⟩
set_option maxHeartbeats 2000000 in
set_option maxRecDepth 100000 in
theorem run2_c (s : ByteArray) (hs : s.size ≤ 9223372036854775806) (b : Nat) (w : World) (hb : Ob w b 9 [.string s]) : Calls Tryd.prog 25 #[.string s, .func (.func 29) #[] #[.pointer (some ⟨b, 0, none⟩)]] w fun e w' => e = .returned (.int .i64 (runN pDig 0 s.data.toList : Nat)) ∧ Ext w w' := by
  have hc := hide (fun k hk w' (hX : Ext w w') => len2_c s k hk (by omega) b w' (hb.ext hX))
  obtain ⟨R, hR⟩ : ∃ R, R = runN pDig 0 s.data.toList := ⟨_, rfl⟩
  rw [← hR]
  replace hR := hide hR
  clear hb
  go_enter Tryd.func25, Tryd.ntmps25
  go_wp2_with fail
  go_loopg [5] s.size (fun gh i wr => ∃ (k : Nat), i = .int .i64 k ∧ k + gh = s.size ∧ Hid (R = k + runN pDig k (s.data.toList.drop k)) ∧ Ext w wr)
  case atStart => exact ⟨0, rfl, by omega, (by show _ = _; rw [hR.out]; simp), Ext.refl w⟩
  case round =>
    obtain ⟨k, rfl, hk, hRk, hX⟩ := hrel
    clear hR
    by_cases hlt : k < s.size
    · have hcc := hide (hc.out k hlt wr hX)
      have hR2 := hRk.out
      rw [str_drop s k hlt, runN] at hR2
      generalize pDig k s[k] = q at *
      cases q
      · rw [if_neg (by decide)] at hR2
        replace hR2 := hide hR2
        clear hRk
        go_wp2_with (first | (go_at_call 29; (with_reducible refine seq_gw hcc.out ?_); intro g))
        go_returns
        exact ⟨by rw [hR2.out]; simp, hX.trans g.grown⟩
      · rw [if_pos rfl] at hR2
        replace hR2 := hide hR2
        clear hRk
        go_wp2_with (first | (go_at_call 29; (with_reducible refine seq_gw hcc.out ?_); intro g))
        go_roundg (s.size - (k + 1))
        case measure => omega
        case rel => exact ⟨k + 1, by go_num, by omega, (by show _ = _; rw [hR2.out]; omega), hX.trans g.grown⟩
    · have hge : s.size ≤ k := by omega
      have hR2 := hRk.out
      rw [List.drop_of_length_le (by rw [str_len]; exact hge), runN] at hR2
      replace hR2 := hide hR2
      have hks : k = s.size := by omega
      clear hRk
      go_wp2_with fail
      go_returns
      exact ⟨by rw [hR2.out]; simp, hX⟩
set_option maxHeartbeats 2000000 in
set_option maxRecDepth 100000 in
theorem run3_c (s : ByteArray) (hs : s.size ≤ 9223372036854775806) (b : Nat) (w : World) (hb : Ob w b 9 [.string s]) : Calls Tryd.prog 25 #[.string s, .func (.func 39) #[] #[.pointer (some ⟨b, 0, none⟩)]] w fun e w' => e = .returned (.int .i64 (runN pQuo 0 s.data.toList : Nat)) ∧ Ext w w' := by
  have hc := hide (fun k hk w' (hX : Ext w w') => quo1_c s k hk (by omega) b w' (hb.ext hX))
  obtain ⟨R, hR⟩ : ∃ R, R = runN pQuo 0 s.data.toList := ⟨_, rfl⟩
  rw [← hR]
  replace hR := hide hR
  clear hb
  go_enter Tryd.func25, Tryd.ntmps25
  go_wp2_with fail
  go_loopg [5] s.size (fun gh i wr => ∃ (k : Nat), i = .int .i64 k ∧ k + gh = s.size ∧ Hid (R = k + runN pQuo k (s.data.toList.drop k)) ∧ Ext w wr)
  case atStart => exact ⟨0, rfl, by omega, (by show _ = _; rw [hR.out]; simp), Ext.refl w⟩
  case round =>
    obtain ⟨k, rfl, hk, hRk, hX⟩ := hrel
    clear hR
    by_cases hlt : k < s.size
    · have hcc := hide (hc.out k hlt wr hX)
      have hR2 := hRk.out
      rw [str_drop s k hlt, runN] at hR2
      generalize pQuo k s[k] = q at *
      cases q
      · rw [if_neg (by decide)] at hR2
        replace hR2 := hide hR2
        clear hRk
        go_wp2_with (first | (go_at_call 39; (with_reducible refine seq_gw hcc.out ?_); intro g))
        go_returns
        exact ⟨by rw [hR2.out]; simp, hX.trans g.grown⟩
      · rw [if_pos rfl] at hR2
        replace hR2 := hide hR2
        clear hRk
        go_wp2_with (first | (go_at_call 39; (with_reducible refine seq_gw hcc.out ?_); intro g))
        go_roundg (s.size - (k + 1))
        case measure => omega
        case rel => exact ⟨k + 1, by go_num, by omega, (by show _ = _; rw [hR2.out]; omega), hX.trans g.grown⟩
    · have hge : s.size ≤ k := by omega
      have hR2 := hRk.out
      rw [List.drop_of_length_le (by rw [str_len]; exact hge), runN] at hR2
      replace hR2 := hide hR2
      have hks : k = s.size := by omega
      clear hRk
      go_wp2_with fail
      go_returns
      exact ⟨by rw [hR2.out]; simp, hX⟩
end Go.Proofs.YtjkfkecabhcnfaaDoor
