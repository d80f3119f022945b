/-
  A helper of ours: no claim of its own. Layer 19 (lex): what a token is, by the document.
-/
import Derived.Test.YtjkfkecabhcnfaaDoorLexG
set_option linter.unusedVariables false
set_option linter.unusedSimpArgs false
namespace Go.Proofs.YtjkfkecabhcnfaaDoor
open Go.RowKit
attribute [local go_sem] GW.cell GW.frozen In.eq_true In.le_true In.ne In.ne' In.ne_add In.ne_add' In.lt_add Upto.le_true Upto.le_add Upto.lt_add
theorem str_is (s : ByteArray) (l : List UInt8) (h : s.data.toList = l) : s = ⟨l.toArray⟩ := by rw [← h]; try exact str_eq s
theorem toL (s : ByteArray) : s.toList = s.data.toList := Lib.toList_data s
/-- The texts of signs. -/
def sgnT : List (List UInt8) := [[61], [60, 62], [60], [60, 61], [62], [62, 61], [43], [43, 43], [45], [42], [47], [37], [40], [41], [44]]
theorem sgn_text : ∀ l : List UInt8, l ≠ [] → (sgnL l = l.length ↔ l ∈ sgnT)
  | [c], _ => by
    rw [sgn1]
    have h : ((if isS c then 1 else 0) = 1 ↔ isS c = true) := by cases isS c <;> simp
    show (if isS c then 1 else 0) = 1 ↔ _
    rw [h]
    unfold isS sgnT
    simp only [List.any_cons, List.any_nil, Bool.or_false, Bool.or_eq_true, beq_iff_eq, List.mem_cons, List.not_mem_nil, or_false, List.cons.injEq, and_true, reduceCtorEq, and_false, false_or]
    constructor
    · rintro (h | h | h | h | h | h | h | h | h | h | h) <;> subst h <;> simp
    · rintro (h | h | h | h | h | h | h | h | h | h | h) <;> subst h <;> simp
  | [c, d], _ => by
    rw [sgn2]
    have h : ((if isS2 c d then 2 else if isS c then 1 else 0) = 2 ↔ isS2 c d = true) := by cases isS2 c d <;> cases isS c <;> simp
    show (if isS2 c d then 2 else if isS c then 1 else 0) = 2 ↔ _
    rw [h]
    unfold isS2 sgnT
    simp only [Bool.or_eq_true, Bool.and_eq_true, beq_iff_eq, List.mem_cons, List.not_mem_nil, or_false, List.cons.injEq, and_true, reduceCtorEq, and_false, false_or]
    constructor
    · rintro ((⟨rfl, rfl | rfl⟩ | ⟨rfl, rfl⟩) | ⟨rfl, rfl⟩) <;> simp
    · rintro (⟨rfl, rfl⟩ | ⟨rfl, rfl⟩ | ⟨rfl, rfl⟩ | ⟨rfl, rfl⟩) <;> simp
  | c :: d :: e :: r, _ => by
    have h2 := sgnL_two (c :: d :: e :: r)
    constructor
    · intro h
      simp only [List.length_cons] at h; omega
    · intro h
      simp [sgnT] at h
theorem mayT_nil (k : Int) : mayT (k, []) = false := by simp [mayT]
theorem mayT_4 {l : List UInt8} (h : l ≠ []) : mayT (4, l) = decide (l ∈ sgnT) := by
  have e := sgn_text l h
  rw [Bool.eq_iff_iff, decide_eq_true_iff, ← e]
  unfold mayT lenK
  simp [h]
theorem mayT_3 {l : List UInt8} : mayT (3, l) = true ↔ ∃ m, l = 39 :: (m ++ [39]) ∧ ∀ x ∈ m, x ≠ 39 := by
  rw [mayT_iff]
  simp only
  constructor
  · rintro ⟨h1, h2⟩
    have hpos : 0 < l.length := List.length_pos_iff.2 h1
    unfold lenK at h2
    rw [if_neg (by decide), if_neg (by decide), if_pos rfl] at h2
    obtain ⟨m, q, e, hm, hl⟩ := (quoL_iff _ _ (by omega)).1 h2
    have hq : q = [] := by
      have := congrArg List.length e
      simp at this
      exact List.eq_nil_of_length_eq_zero (by omega)
    subst hq
    exact ⟨m, e, hm⟩
  · rintro ⟨m, rfl, hm⟩
    refine ⟨by simp, ?_⟩
    unfold lenK
    rw [if_neg (by decide), if_neg (by decide), if_pos rfl]
    exact (quoL_iff _ _ (by simp)).2 ⟨m, [], rfl, hm, by simp⟩
theorem runN_full (p : Nat → UInt8 → Bool) : ∀ (l : List UInt8) (k : Nat), (∀ i c, l[i]? = some c → p (k + i) c = true) → runN p k l = l.length
  | [], _, _ => rfl
  | c :: r, k, h => by
    simp only [runN]
    have h0 := h 0 c rfl
    rw [Nat.add_zero] at h0
    rw [if_pos h0, runN_full p r (k + 1) (fun i c' hc => by have := h (i + 1) c' (by simpa using hc); rwa [show k + (i + 1) = k + 1 + i by omega] at this)]; rfl
theorem runN_fail (p : Nat → UInt8 → Bool) : ∀ (l : List UInt8) (k i : Nat) (c : UInt8), l[i]? = some c → p (k + i) c = false → runN p k l ≠ l.length
  | c :: r, k, 0, d, h, hp => by
    obtain rfl : c = d := by simpa using h
    simp only [runN]
    rw [if_neg (by rw [show k + 0 = k from rfl] at hp; rw [hp]; decide)]; simp
  | c :: r, k, i + 1, d, h, hp => by
    simp only [runN]
    split
    · have := runN_fail p r (k + 1) i d (by simpa using h) (by rwa [show k + 1 + i = k + (i + 1) by omega])
      simp only [List.length_cons]; omega
    · simp
theorem mayT_12 {k : Int} {p : Nat → UInt8 → Bool} {l : List UInt8} (hk : (k = 1 ∧ p = pName) ∨ (k = 2 ∧ p = pDig)) (h : l ≠ []) : mayT (k, l) = decide (runN p 0 l = l.length) := by
  unfold mayT lenK
  rcases hk with ⟨rfl, rfl⟩ | ⟨rfl, rfl⟩ <;> simp [h]
theorem mayT_other {k : Int} (h1 : k ≠ 1) (h2 : k ≠ 2) (h3 : k ≠ 3) (h4 : k ≠ 4) {l : List UInt8} (h : l ≠ []) : mayT (k, l) = false := by
  unfold mayT lenK
  rw [if_neg h1, if_neg h2, if_neg h3, if_neg h4]
  have : 0 < l.length := List.length_pos_iff.2 h
  have h0 : ¬ (0 = l.length) := by omega
  simp [h0]
set_option maxHeartbeats 2000000 in
set_option maxRecDepth 100000 in
theorem rmay_nil (k : Int) (s : ByteArray) (h : s.size = 0) (w : World) : Calls Tryd.prog 12 #[.agg #[.int .i64 k, .string s]] w fun e w' => e = .returned (.bool false) ∧ Ext w w' := by
  have hI : ((s.size : Int) == 0) = true := by simp [h]
  replace h := hide h
  go_enter Tryd.func12, Tryd.ntmps12
  go_wp2_with fail
  go_returns
  exact ⟨by first | rfl | simp, by repeat (first | exact Ext.refl _ | refine Ext.alloc ?_ _)⟩
set_option maxHeartbeats 2000000 in
set_option maxRecDepth 100000 in
theorem rmay_s0  (w : World) : Calls Tryd.prog 12 #[.agg #[.int .i64 4, .string ⟨#[61]⟩]] w fun e w' => e = .returned (.bool true) ∧ Ext w w' := by
  go_enter Tryd.func12, Tryd.ntmps12
  go_wp2_with fail
  go_returns
  exact ⟨by first | rfl | simp, by repeat (first | exact Ext.refl _ | refine Ext.alloc ?_ _)⟩
set_option maxHeartbeats 2000000 in
set_option maxRecDepth 100000 in
theorem rmay_s1  (w : World) : Calls Tryd.prog 12 #[.agg #[.int .i64 4, .string ⟨#[60, 62]⟩]] w fun e w' => e = .returned (.bool true) ∧ Ext w w' := by
  go_enter Tryd.func12, Tryd.ntmps12
  go_wp2_with fail
  go_returns
  exact ⟨by first | rfl | simp, by repeat (first | exact Ext.refl _ | refine Ext.alloc ?_ _)⟩
set_option maxHeartbeats 2000000 in
set_option maxRecDepth 100000 in
theorem rmay_s2  (w : World) : Calls Tryd.prog 12 #[.agg #[.int .i64 4, .string ⟨#[60]⟩]] w fun e w' => e = .returned (.bool true) ∧ Ext w w' := by
  go_enter Tryd.func12, Tryd.ntmps12
  go_wp2_with fail
  go_returns
  exact ⟨by first | rfl | simp, by repeat (first | exact Ext.refl _ | refine Ext.alloc ?_ _)⟩
set_option maxHeartbeats 2000000 in
set_option maxRecDepth 100000 in
theorem rmay_s3  (w : World) : Calls Tryd.prog 12 #[.agg #[.int .i64 4, .string ⟨#[60, 61]⟩]] w fun e w' => e = .returned (.bool true) ∧ Ext w w' := by
  go_enter Tryd.func12, Tryd.ntmps12
  go_wp2_with fail
  go_returns
  exact ⟨by first | rfl | simp, by repeat (first | exact Ext.refl _ | refine Ext.alloc ?_ _)⟩
set_option maxHeartbeats 2000000 in
set_option maxRecDepth 100000 in
theorem rmay_s4  (w : World) : Calls Tryd.prog 12 #[.agg #[.int .i64 4, .string ⟨#[62]⟩]] w fun e w' => e = .returned (.bool true) ∧ Ext w w' := by
  go_enter Tryd.func12, Tryd.ntmps12
  go_wp2_with fail
  go_returns
  exact ⟨by first | rfl | simp, by repeat (first | exact Ext.refl _ | refine Ext.alloc ?_ _)⟩
set_option maxHeartbeats 2000000 in
set_option maxRecDepth 100000 in
theorem rmay_s5  (w : World) : Calls Tryd.prog 12 #[.agg #[.int .i64 4, .string ⟨#[62, 61]⟩]] w fun e w' => e = .returned (.bool true) ∧ Ext w w' := by
  go_enter Tryd.func12, Tryd.ntmps12
  go_wp2_with fail
  go_returns
  exact ⟨by first | rfl | simp, by repeat (first | exact Ext.refl _ | refine Ext.alloc ?_ _)⟩
set_option maxHeartbeats 2000000 in
set_option maxRecDepth 100000 in
theorem rmay_s6  (w : World) : Calls Tryd.prog 12 #[.agg #[.int .i64 4, .string ⟨#[43]⟩]] w fun e w' => e = .returned (.bool true) ∧ Ext w w' := by
  go_enter Tryd.func12, Tryd.ntmps12
  go_wp2_with fail
  go_returns
  exact ⟨by first | rfl | simp, by repeat (first | exact Ext.refl _ | refine Ext.alloc ?_ _)⟩
set_option maxHeartbeats 2000000 in
set_option maxRecDepth 100000 in
theorem rmay_s7  (w : World) : Calls Tryd.prog 12 #[.agg #[.int .i64 4, .string ⟨#[43, 43]⟩]] w fun e w' => e = .returned (.bool true) ∧ Ext w w' := by
  go_enter Tryd.func12, Tryd.ntmps12
  go_wp2_with fail
  go_returns
  exact ⟨by first | rfl | simp, by repeat (first | exact Ext.refl _ | refine Ext.alloc ?_ _)⟩
set_option maxHeartbeats 2000000 in
set_option maxRecDepth 100000 in
theorem rmay_s8  (w : World) : Calls Tryd.prog 12 #[.agg #[.int .i64 4, .string ⟨#[45]⟩]] w fun e w' => e = .returned (.bool true) ∧ Ext w w' := by
  go_enter Tryd.func12, Tryd.ntmps12
  go_wp2_with fail
  go_returns
  exact ⟨by first | rfl | simp, by repeat (first | exact Ext.refl _ | refine Ext.alloc ?_ _)⟩
set_option maxHeartbeats 2000000 in
set_option maxRecDepth 100000 in
theorem rmay_s9  (w : World) : Calls Tryd.prog 12 #[.agg #[.int .i64 4, .string ⟨#[42]⟩]] w fun e w' => e = .returned (.bool true) ∧ Ext w w' := by
  go_enter Tryd.func12, Tryd.ntmps12
  go_wp2_with fail
  go_returns
  exact ⟨by first | rfl | simp, by repeat (first | exact Ext.refl _ | refine Ext.alloc ?_ _)⟩
set_option maxHeartbeats 2000000 in
set_option maxRecDepth 100000 in
theorem rmay_s10  (w : World) : Calls Tryd.prog 12 #[.agg #[.int .i64 4, .string ⟨#[47]⟩]] w fun e w' => e = .returned (.bool true) ∧ Ext w w' := by
  go_enter Tryd.func12, Tryd.ntmps12
  go_wp2_with fail
  go_returns
  exact ⟨by first | rfl | simp, by repeat (first | exact Ext.refl _ | refine Ext.alloc ?_ _)⟩
set_option maxHeartbeats 2000000 in
set_option maxRecDepth 100000 in
theorem rmay_s11  (w : World) : Calls Tryd.prog 12 #[.agg #[.int .i64 4, .string ⟨#[37]⟩]] w fun e w' => e = .returned (.bool true) ∧ Ext w w' := by
  go_enter Tryd.func12, Tryd.ntmps12
  go_wp2_with fail
  go_returns
  exact ⟨by first | rfl | simp, by repeat (first | exact Ext.refl _ | refine Ext.alloc ?_ _)⟩
set_option maxHeartbeats 2000000 in
set_option maxRecDepth 100000 in
theorem rmay_s12  (w : World) : Calls Tryd.prog 12 #[.agg #[.int .i64 4, .string ⟨#[40]⟩]] w fun e w' => e = .returned (.bool true) ∧ Ext w w' := by
  go_enter Tryd.func12, Tryd.ntmps12
  go_wp2_with fail
  go_returns
  exact ⟨by first | rfl | simp, by repeat (first | exact Ext.refl _ | refine Ext.alloc ?_ _)⟩
set_option maxHeartbeats 2000000 in
set_option maxRecDepth 100000 in
theorem rmay_s13  (w : World) : Calls Tryd.prog 12 #[.agg #[.int .i64 4, .string ⟨#[41]⟩]] w fun e w' => e = .returned (.bool true) ∧ Ext w w' := by
  go_enter Tryd.func12, Tryd.ntmps12
  go_wp2_with fail
  go_returns
  exact ⟨by first | rfl | simp, by repeat (first | exact Ext.refl _ | refine Ext.alloc ?_ _)⟩
set_option maxHeartbeats 2000000 in
set_option maxRecDepth 100000 in
theorem rmay_s14  (w : World) : Calls Tryd.prog 12 #[.agg #[.int .i64 4, .string ⟨#[44]⟩]] w fun e w' => e = .returned (.bool true) ∧ Ext w w' := by
  go_enter Tryd.func12, Tryd.ntmps12
  go_wp2_with fail
  go_returns
  exact ⟨by first | rfl | simp, by repeat (first | exact Ext.refl _ | refine Ext.alloc ?_ _)⟩
set_option maxHeartbeats 2000000 in
set_option maxRecDepth 100000 in
theorem rmay_sno (s : ByteArray) (h : 0 < s.size) (hn : s.data.toList ∉ sgnT) (w : World) : Calls Tryd.prog 12 #[.agg #[.int .i64 4, .string s]] w fun e w' => e = .returned (.bool false) ∧ Ext w w' := by
  have hI : ((s.size : Int) == 0) = false := by rw [beq_eq_false_iff_ne]; omega
  have q0 : (s.toList == [61]) = false := by rw [toL, ← Bool.not_eq_true, beq_iff_eq]; intro e; exact hn (by rw [e]; simp [sgnT])
  have q1 : (s.toList == [60, 62]) = false := by rw [toL, ← Bool.not_eq_true, beq_iff_eq]; intro e; exact hn (by rw [e]; simp [sgnT])
  have q2 : (s.toList == [60]) = false := by rw [toL, ← Bool.not_eq_true, beq_iff_eq]; intro e; exact hn (by rw [e]; simp [sgnT])
  have q3 : (s.toList == [60, 61]) = false := by rw [toL, ← Bool.not_eq_true, beq_iff_eq]; intro e; exact hn (by rw [e]; simp [sgnT])
  have q4 : (s.toList == [62]) = false := by rw [toL, ← Bool.not_eq_true, beq_iff_eq]; intro e; exact hn (by rw [e]; simp [sgnT])
  have q5 : (s.toList == [62, 61]) = false := by rw [toL, ← Bool.not_eq_true, beq_iff_eq]; intro e; exact hn (by rw [e]; simp [sgnT])
  have q6 : (s.toList == [43]) = false := by rw [toL, ← Bool.not_eq_true, beq_iff_eq]; intro e; exact hn (by rw [e]; simp [sgnT])
  have q7 : (s.toList == [43, 43]) = false := by rw [toL, ← Bool.not_eq_true, beq_iff_eq]; intro e; exact hn (by rw [e]; simp [sgnT])
  have q8 : (s.toList == [45]) = false := by rw [toL, ← Bool.not_eq_true, beq_iff_eq]; intro e; exact hn (by rw [e]; simp [sgnT])
  have q9 : (s.toList == [42]) = false := by rw [toL, ← Bool.not_eq_true, beq_iff_eq]; intro e; exact hn (by rw [e]; simp [sgnT])
  have q10 : (s.toList == [47]) = false := by rw [toL, ← Bool.not_eq_true, beq_iff_eq]; intro e; exact hn (by rw [e]; simp [sgnT])
  have q11 : (s.toList == [37]) = false := by rw [toL, ← Bool.not_eq_true, beq_iff_eq]; intro e; exact hn (by rw [e]; simp [sgnT])
  have q12 : (s.toList == [40]) = false := by rw [toL, ← Bool.not_eq_true, beq_iff_eq]; intro e; exact hn (by rw [e]; simp [sgnT])
  have q13 : (s.toList == [41]) = false := by rw [toL, ← Bool.not_eq_true, beq_iff_eq]; intro e; exact hn (by rw [e]; simp [sgnT])
  have q14 : (s.toList == [44]) = false := by rw [toL, ← Bool.not_eq_true, beq_iff_eq]; intro e; exact hn (by rw [e]; simp [sgnT])
  clear hn h
  go_enter Tryd.func12, Tryd.ntmps12
  go_wp2_with fail
  go_returns
  exact ⟨by first | rfl | simp, by repeat (first | exact Ext.refl _ | refine Ext.alloc ?_ _)⟩
theorem rmay_4 (s : ByteArray) (h : 0 < s.size) (w : World) : Calls Tryd.prog 12 #[.agg #[.int .i64 4, .string s]] w fun e w' => e = .returned (.bool (mayT (4, s.data.toList))) ∧ Ext w w' := by
  have hne : s.data.toList ≠ [] := fun e => by have := congrArg List.length e; rw [str_len, List.length_nil] at this; omega
  rw [mayT_4 hne]
  by_cases hm : s.data.toList ∈ sgnT
  · rw [decide_eq_true hm]
    have h15 : s.data.toList = [61] ∨ s.data.toList = [60, 62] ∨ s.data.toList = [60] ∨ s.data.toList = [60, 61] ∨ s.data.toList = [62] ∨ s.data.toList = [62, 61] ∨ s.data.toList = [43] ∨ s.data.toList = [43, 43] ∨ s.data.toList = [45] ∨ s.data.toList = [42] ∨ s.data.toList = [47] ∨ s.data.toList = [37] ∨ s.data.toList = [40] ∨ s.data.toList = [41] ∨ s.data.toList = [44] := by simpa [sgnT] using hm
    rcases h15 with e | e | e | e | e | e | e | e | e | e | e | e | e | e | e
    · rw [str_is s _ e]; exact rmay_s0 w
    · rw [str_is s _ e]; exact rmay_s1 w
    · rw [str_is s _ e]; exact rmay_s2 w
    · rw [str_is s _ e]; exact rmay_s3 w
    · rw [str_is s _ e]; exact rmay_s4 w
    · rw [str_is s _ e]; exact rmay_s5 w
    · rw [str_is s _ e]; exact rmay_s6 w
    · rw [str_is s _ e]; exact rmay_s7 w
    · rw [str_is s _ e]; exact rmay_s8 w
    · rw [str_is s _ e]; exact rmay_s9 w
    · rw [str_is s _ e]; exact rmay_s10 w
    · rw [str_is s _ e]; exact rmay_s11 w
    · rw [str_is s _ e]; exact rmay_s12 w
    · rw [str_is s _ e]; exact rmay_s13 w
    · rw [str_is s _ e]; exact rmay_s14 w
  · rw [decide_eq_false hm]; exact rmay_sno s h hm w
set_option maxHeartbeats 2000000 in
set_option maxRecDepth 100000 in
theorem rmay_o (k : Int) (s : ByteArray) (h : 0 < s.size) (h1 : k ≠ 1) (h2 : k ≠ 2) (h3 : k ≠ 3) (h4 : k ≠ 4) (w : World) : Calls Tryd.prog 12 #[.agg #[.int .i64 k, .string s]] w fun e w' => e = .returned (.bool false) ∧ Ext w w' := by
  have hI : ((s.size : Int) == 0) = false := by rw [beq_eq_false_iff_ne]; omega
  have b1 : (k != 1) = true := by simpa using h1
  have b2 : (k != 2) = true := by simpa using h2
  have b3 : (k == 3) = false := by simpa using h3
  have b4 : (k == 4) = false := by simpa using h4
  clear h h1 h2 h3 h4
  go_enter Tryd.func12, Tryd.ntmps12
  go_wp2_with fail
  go_returns
  exact ⟨by first | rfl | simp, by repeat (first | exact Ext.refl _ | refine Ext.alloc ?_ _)⟩
set_option maxHeartbeats 8000000 in
set_option maxRecDepth 100000 in
theorem rmay_3 (s : ByteArray) (h : 0 < s.size) (hs : s.size ≤ 9223372036854775806) (w : World) : Calls Tryd.prog 12 #[.agg #[.int .i64 3, .string s]] w fun e w' => e = .returned (.bool (mayT (3, s.data.toList))) ∧ Ext w w' := by
  have hI : ((s.size : Int) == 0) = false := by rw [beq_eq_false_iff_ne]; omega
  obtain ⟨R, hR⟩ : ∃ R, R = mayT (3, s.data.toList) := ⟨_, rfl⟩
  rw [← hR]
  by_cases h2 : s.size < 2
  · have hRf : Hid (R = false) := by
      show _ = _
      rw [hR, ← Bool.not_eq_true]
      intro e
      obtain ⟨m, e2, -⟩ := mayT_3.1 e
      have := congrArg List.length e2
      rw [str_len] at this
      simp at this; omega
    have h2I : (s.size : Int) < 2 := by omega
    clear hR h h2
    go_enter Tryd.func12, Tryd.ntmps12
    go_wp2_with fail
    go_returns
    exact ⟨by rw [hRf.out]; first | rfl | simp, by repeat (first | exact Ext.refl _ | refine Ext.alloc ?_ _)⟩
  have h2I : ¬ (s.size : Int) < 2 := by omega
  have hposI : (0 : Int) < s.size := by omega
  have hlast : s.size - 1 < s.size := by omega
  have b0 := byte_eq s[0] 39
  have bl := byte_eq s[s.size - 1] 39
  have hd0 := str_drop s 0 h
  rw [List.drop_zero] at hd0
  have hdl := str_drop s (s.size - 1) hlast
  rw [List.drop_of_length_le (show s.data.toList.length ≤ s.size - 1 + 1 by rw [str_len]; omega)] at hdl
  have hltI : (s.size : Int) - 1 < s.size := by omega
  have hgeI : (0 : Int) ≤ (s.size : Int) - 1 := by omega
  have hcast : ((s.size - 1 : Nat) : Int) = (s.size : Int) - 1 := by omega
  by_cases c0 : s[0] = 39
  · have q0 : ((s[0].toNat : Int) != 39) = false := by unfold bne; rw [show ((s[0].toNat : Int) == 39) = decide (s[0] = 39) from b0, decide_eq_true c0]; rfl
    by_cases cl : s[s.size - 1] = 39
    · have ql : ((s[s.size - 1].toNat : Int) != 39) = false := by unfold bne; rw [show ((s[s.size - 1].toNat : Int) == 39) = decide (s[s.size - 1] = 39) from bl, decide_eq_true cl]; rfl
      have hRa : Hid (∀ k, 1 ≤ k → s.size - 1 ≤ k → (∀ i c, 1 ≤ i → i < k → i < s.size - 1 → s.data.toList[i]? = some c → c ≠ 39) → R = true) := by
        intro k hk1 hk2 hall
        rw [hR]
        refine mayT_3.2 ⟨(s.data.toList.drop 1).take (s.size - 2), ?_, ?_⟩
        · have e1 : s.data.toList.drop 1 = (s.data.toList.drop 1).take (s.size - 2) ++ (s.data.toList.drop 1).drop (s.size - 2) := (List.take_append_drop _ _).symm
          rw [List.drop_drop, show 1 + (s.size - 2) = s.size - 1 by omega, hdl, cl] at e1
          rw [← e1]
          rw [hd0, c0]; rfl
        · intro x hx
          obtain ⟨j, hj⟩ := List.getElem?_of_mem hx
          rw [List.getElem?_take] at hj
          split at hj
          · next hlt =>
            rw [List.getElem?_drop] at hj
            exact hall (1 + j) x (by omega) (by omega) (by omega) hj
          · cases hj
      have hRb : Hid (∀ i, 1 ≤ i → i < s.size - 1 → s.data.toList[i]? = some 39 → R = false) := by
        intro i hi1 hi2 hi
        rw [hR, ← Bool.not_eq_true]
        intro e
        obtain ⟨m, e2, hm⟩ := mayT_3.1 e
        have hl := congrArg List.length e2
        rw [str_len] at hl
        simp at hl
        rw [e2] at hi
        obtain ⟨j, rfl⟩ : ∃ j, i = j + 1 := ⟨i - 1, by omega⟩
        rw [List.getElem?_cons_succ, List.getElem?_append_left (by omega)] at hi
        exact hm 39 (List.mem_of_getElem? hi) rfl
      clear hR b0 bl c0 cl hd0 hdl h2
      go_enter Tryd.func12, Tryd.ntmps12
      go_wp2_with fail
      go_loopg [4] (s.size - 2) (fun gh iv wr => ∃ (k : Nat), iv = .int .i64 k ∧ 1 ≤ k ∧ k + gh = s.size - 1 ∧ Hid (∀ i c, 1 ≤ i → i < k → i < s.size - 1 → s.data.toList[i]? = some c → c ≠ 39) ∧ Ext w wr)
      case atStart => exact ⟨1, rfl, Nat.le_refl _, by omega, (by intro i c h1 h2; omega), by repeat (first | exact Ext.refl _ | refine Ext.alloc ?_ _)⟩
      case round =>
        obtain ⟨k, rfl, hk1, hk, hall, hX⟩ := hrel
        by_cases hlt : k < s.size - 1
        · have hks : k < s.size := by omega
          have hkI : (k : Int) < (s.size : Int) - 1 := by omega
          have hkI2 : (k : Int) < (s.size : Int) := by omega
          have bk := byte_eq s[k] 39
          have hck : s.data.toList[k]? = some s[k] := by rw [List.getElem?_eq_getElem (by rw [str_len]; exact hks)]; rfl
          by_cases ck : s[k] = 39
          · have qk : ((s[k].toNat : Int) == 39) = true := by rw [show ((s[k].toNat : Int) == 39) = decide (s[k] = 39) from bk, decide_eq_true ck]
            have hRf := hide (hRb.out k hk1 hlt (by rw [hck, ck]))
            clear hRa hRb hall bk hck ck
            go_wp2_with fail
            go_returns
            exact ⟨by rw [hRf.out]; first | rfl | simp, hX⟩
          · have qk : ((s[k].toNat : Int) == 39) = false := by rw [show ((s[k].toNat : Int) == 39) = decide (s[k] = 39) from bk, decide_eq_false ck]
            have hn : Hid (∀ i c, 1 ≤ i → i < k + 1 → i < s.size - 1 → s.data.toList[i]? = some c → c ≠ 39) := by
              intro i c h1 h2 h3 h4
              rcases (by omega : i < k ∨ i = k) with hh | rfl
              · exact hall.out i c h1 hh h3 h4
              · rw [hck] at h4; injection h4 with h4; rw [← h4]; exact ck
            clear hRa hRb hall bk hck ck
            go_wp2_with fail
            go_roundg (s.size - 1 - (k + 1))
            case measure => omega
            case rel => exact ⟨k + 1, by go_num, by omega, by omega, hn, hX⟩
        · have hge : (s.size : Int) - 1 ≤ (k : Int) := by omega
          have hRt := hide (hRa.out k hk1 (by omega) hall.out)
          clear hRa hRb hall
          go_wp2_with fail
          go_returns
          exact ⟨by rw [hRt.out]; first | rfl | simp, hX⟩
    · have ql : ((s[s.size - 1].toNat : Int) != 39) = true := by unfold bne; rw [show ((s[s.size - 1].toNat : Int) == 39) = decide (s[s.size - 1] = 39) from bl, decide_eq_false cl]; rfl
      have hRf : Hid (R = false) := by
        show _ = _
        rw [hR, ← Bool.not_eq_true]
        intro e
        obtain ⟨m, e2, -⟩ := mayT_3.1 e
        have hl := congrArg List.length e2
        rw [str_len] at hl
        simp at hl
        have : s.data.toList.drop (s.size - 1) = [39] := by rw [e2, show s.size - 1 = (39 :: m).length by simp; omega, ← List.cons_append]; exact List.drop_left' rfl
        rw [hdl] at this
        injection this with this; exact cl this
      clear hR b0 bl c0 cl hd0 hdl h2
      go_enter Tryd.func12, Tryd.ntmps12
      go_wp2_with fail
      go_returns
      exact ⟨by rw [hRf.out]; first | rfl | simp, by repeat (first | exact Ext.refl _ | refine Ext.alloc ?_ _)⟩
  · have q0 : ((s[0].toNat : Int) != 39) = true := by unfold bne; rw [show ((s[0].toNat : Int) == 39) = decide (s[0] = 39) from b0, decide_eq_false c0]; rfl
    have hRf : Hid (R = false) := by
      show _ = _
      rw [hR, ← Bool.not_eq_true]
      intro e
      obtain ⟨m, e2, -⟩ := mayT_3.1 e
      rw [hd0] at e2
      injection e2 with e3 _; exact c0 e3
    clear hR b0 bl c0 hd0 hdl h2
    go_enter Tryd.func12, Tryd.ntmps12
    go_wp2_with fail
    go_returns
    exact ⟨by rw [hRf.out]; first | rfl | simp, by repeat (first | exact Ext.refl _ | refine Ext.alloc ?_ _)⟩
set_option maxHeartbeats 8000000 in
set_option maxRecDepth 100000 in
theorem rmay_1 (s : ByteArray) (h : 0 < s.size) (hs : s.size ≤ 9223372036854775806) (w : World) : Calls Tryd.prog 12 #[.agg #[.int .i64 1, .string s]] w fun e w' => e = .returned (.bool (mayT (1, s.data.toList))) ∧ Ext w w' := by
  have hI : ((s.size : Int) == 0) = false := by rw [beq_eq_false_iff_ne]; omega
  have hne : s.data.toList ≠ [] := fun e => by have := congrArg List.length e; rw [str_len, List.length_nil] at this; omega
  obtain ⟨R, hR⟩ : ∃ R, R = mayT (1, s.data.toList) := ⟨_, rfl⟩
  rw [← hR]
  rw [mayT_12 (p := pName) (.inl ⟨rfl, rfl⟩) hne] at hR
  have hposI : (0 : Int) < s.size := by omega
  have hlet := hide (fun c w => refLetter_c c w)
  have hdig := hide (fun c w => refDigit_c c w)
  have hck : Hid (∀ k (hk : k < s.size), s.data.toList[k]? = some s[k]) := fun k hk => by rw [List.getElem?_eq_getElem (by rw [str_len]; exact hk)]; rfl
  have hRa : Hid ((∀ i c, i < s.size → s.data.toList[i]? = some c → pName i c = true) → R = true) := by
    intro hall
    rw [hR, decide_eq_true_iff]
    exact runN_full pName _ 0 (fun i c hc => by rw [Nat.zero_add]; exact hall i c (by have := (List.getElem?_eq_some_iff.1 hc).1; rw [str_len] at this; exact this) hc)
  have hRb : Hid (∀ i (hi : i < s.size), pName i s[i] = false → R = false) := by
    intro i hi hp
    rw [hR, decide_eq_false_iff_not]
    exact runN_fail pName _ 0 i _ (hck.out i hi) (by rw [Nat.zero_add]; exact hp)
  clear hR hne
  have hl0 := hide (hlet.out s[0])
  cases hq : isL s[0] with
  | false =>
    have hRf := hide (hRb.out 0 h (by unfold pName; rw [hq]; simp))
    rw [hq] at hl0
    clear hRa hRb hq
    go_enter Tryd.func12, Tryd.ntmps12
    go_wp2_with (first | (go_at_call 20; (with_reducible refine seq_gw (hl0.out _) ?_); intro g))
    go_returns
    exact ⟨by rw [hRf.out]; first | rfl | simp, ((Ext.refl w).alloc _).trans g.grown⟩
  | true =>
  rw [hq] at hl0
  have hq0 := hide hq
  clear hq
  have hOb := hide (Ob.new w 34 [.int .i64 1, .string s])
  go_enter Tryd.func12, Tryd.ntmps12
  go_wp2_with (first | (go_at_call 20; (with_reducible refine seq_gw (hl0.out _) ?_); intro g))
  go_loopg [5] s.size (fun gh iv wr => ∃ (k : Nat), iv = .int .i64 k ∧ k + gh = s.size ∧ Hid (∀ i c, i < k → s.data.toList[i]? = some c → pName i c = true) ∧ Ext (w.alloc (.cells #[.int .i64 1, .string s] 34)) wr)
  case atStart => exact ⟨0, rfl, by omega, (by intro i c h1; omega), g.grown⟩
  case round =>
    obtain ⟨k, rfl, hk, hall, hX⟩ := hrel
    have hb0 := (hOb.out.ext hX).cell 0 rfl
    have hlt0 := (hOb.out.ext hX).lt
    haveI : In w.heap.size wr := ⟨hlt0⟩
    have hXw := hide (((Ext.refl w).alloc _).trans hX)
    by_cases hlt : k < s.size
    · have hkI : (k : Int) < (s.size : Int) := by omega
      have hd := hide (hdig.out s[k])
      have hl := hide (hlet.out s[k])
      have hno := hRb.out k hlt
      have hnx : pName k s[k] = true → Hid (∀ i c, i < k + 1 → s.data.toList[i]? = some c → pName i c = true) := by
        intro hp i c h2 h4
        rcases (by omega : i < k ∨ i = k) with hh | rfl
        · exact hall.out i c hh h4
        · rw [hck.out i hlt] at h4; injection h4 with h4; rw [← h4]; exact hp
      clear hRa hRb hall
      have hpd : pName k s[k] = (isL s[k] || (decide (0 < k) && isD s[k])) := rfl
      by_cases hk0 : k = 0
      · subst hk0
        rw [hq0.out] at hl
        have hp : pName 0 s[0] = true := by unfold pName; rw [hq0.out]; rfl
        have hn := hnx hp
        clear hno hnx hpd hp
        generalize isD s[0] = D at *
        cases D
        · go_wp2_with (first | (go_at_call 21; (with_reducible refine seq_gw (hd.out _) ?_); intro g) | (go_at_call 20; (with_reducible refine seq_gw' (hl.out _) ?_); intro g2))
          go_roundg (s.size - (0 + 1))
          case measure => omega
          case rel => exact ⟨0 + 1, by go_num, by omega, hn, hX.trans g2.grown⟩
        · go_wp2_with (first | (go_at_call 21; (with_reducible refine seq_gw (hd.out _) ?_); intro g))
          go_roundg (s.size - (0 + 1))
          case measure => omega
          case rel => exact ⟨0 + 1, by go_num, by omega, hn, hX.trans g.grown⟩
      · have hkp : 0 < k := by omega
        rw [decide_eq_true hkp, Bool.true_and] at hpd
        cases hD : isD s[k] with
        | true =>
          have hn := hnx (by rw [hpd, hD]; simp)
          rw [hD] at hd
          clear hno hnx hpd hD hk0 hkp
          go_wp2_with (first | (go_at_call 21; (with_reducible refine seq_gw (hd.out _) ?_); intro g))
          go_roundg (s.size - (k + 1))
          case measure => omega
          case rel => exact ⟨k + 1, by go_num, by omega, hn, hX.trans g.grown⟩
        | false =>
          rw [hD] at hd hpd
          rw [Bool.or_false] at hpd
          cases hL : isL s[k] with
          | true =>
            have hn := hnx (by rw [hpd, hL])
            rw [hL] at hl
            clear hno hnx hpd hD hL hk0 hkp
            go_wp2_with (first | (go_at_call 21; (with_reducible refine seq_gw (hd.out _) ?_); intro g) | (go_at_call 20; (with_reducible refine seq_gw' (hl.out _) ?_); intro g2))
            go_roundg (s.size - (k + 1))
            case measure => omega
            case rel => exact ⟨k + 1, by go_num, by omega, hn, hX.trans g2.grown⟩
          | false =>
            have hRf := hide (hno (by rw [hpd, hL]))
            rw [hL] at hl
            clear hno hnx hpd hD hL hk0 hkp
            go_wp2_with (first | (go_at_call 21; (with_reducible refine seq_gw (hd.out _) ?_); intro g) | (go_at_call 20; (with_reducible refine seq_gw' (hl.out _) ?_); intro g2))
            go_returns
            exact ⟨by rw [hRf.out]; first | rfl | simp, hXw.out.trans g2.grown⟩
    · have hge : (s.size : Int) ≤ (k : Int) := by omega
      have hRt := hide (hRa.out (fun i c hi hc => hall.out i c (by omega) hc))
      clear hRa hRb hall
      go_wp2_with fail
      go_returns
      exact ⟨by rw [hRt.out]; first | rfl | simp, hXw.out⟩
set_option maxHeartbeats 8000000 in
set_option maxRecDepth 100000 in
theorem rmay_2 (s : ByteArray) (h : 0 < s.size) (hs : s.size ≤ 9223372036854775806) (w : World) : Calls Tryd.prog 12 #[.agg #[.int .i64 2, .string s]] w fun e w' => e = .returned (.bool (mayT (2, s.data.toList))) ∧ Ext w w' := by
  have hI : ((s.size : Int) == 0) = false := by rw [beq_eq_false_iff_ne]; omega
  have hne : s.data.toList ≠ [] := fun e => by have := congrArg List.length e; rw [str_len, List.length_nil] at this; omega
  obtain ⟨R, hR⟩ : ∃ R, R = mayT (2, s.data.toList) := ⟨_, rfl⟩
  rw [← hR]
  rw [mayT_12 (p := pDig) (.inr ⟨rfl, rfl⟩) hne] at hR
  have hposI : (0 : Int) < s.size := by omega
  have hlet := hide (fun c w => refLetter_c c w)
  have hdig := hide (fun c w => refDigit_c c w)
  have hck : Hid (∀ k (hk : k < s.size), s.data.toList[k]? = some s[k]) := fun k hk => by rw [List.getElem?_eq_getElem (by rw [str_len]; exact hk)]; rfl
  have hRa : Hid ((∀ i c, i < s.size → s.data.toList[i]? = some c → pDig i c = true) → R = true) := by
    intro hall
    rw [hR, decide_eq_true_iff]
    exact runN_full pDig _ 0 (fun i c hc => by rw [Nat.zero_add]; exact hall i c (by have := (List.getElem?_eq_some_iff.1 hc).1; rw [str_len] at this; exact this) hc)
  have hRb : Hid (∀ i (hi : i < s.size), pDig i s[i] = false → R = false) := by
    intro i hi hp
    rw [hR, decide_eq_false_iff_not]
    exact runN_fail pDig _ 0 i _ (hck.out i hi) (by rw [Nat.zero_add]; exact hp)
  clear hR hne
  have hOb := hide (Ob.new w 34 [.int .i64 2, .string s])
  go_enter Tryd.func12, Tryd.ntmps12
  go_wp2_with fail
  go_loopg [5] s.size (fun gh iv wr => ∃ (k : Nat), iv = .int .i64 k ∧ k + gh = s.size ∧ Hid (∀ i c, i < k → s.data.toList[i]? = some c → pDig i c = true) ∧ Ext (w.alloc (.cells #[.int .i64 2, .string s] 34)) wr)
  case atStart => exact ⟨0, rfl, by omega, (by intro i c h1; omega), Ext.refl _⟩
  case round =>
    obtain ⟨k, rfl, hk, hall, hX⟩ := hrel
    have hb0 := (hOb.out.ext hX).cell 0 rfl
    have hlt0 := (hOb.out.ext hX).lt
    haveI : In w.heap.size wr := ⟨hlt0⟩
    have hXw := hide (((Ext.refl w).alloc _).trans hX)
    by_cases hlt : k < s.size
    · have hkI : (k : Int) < (s.size : Int) := by omega
      have hd := hide (hdig.out s[k])
      have hl := hide (hlet.out s[k])
      have hno := hRb.out k hlt
      have hnx : pDig k s[k] = true → Hid (∀ i c, i < k + 1 → s.data.toList[i]? = some c → pDig i c = true) := by
        intro hp i c h2 h4
        rcases (by omega : i < k ∨ i = k) with hh | rfl
        · exact hall.out i c hh h4
        · rw [hck.out i hlt] at h4; injection h4 with h4; rw [← h4]; exact hp
      clear hRa hRb hall
      have hpd : pDig k s[k] = isD s[k] := rfl
      cases hD : isD s[k] with
      | true =>
        have hn := hnx (by rw [hpd, hD])
        rw [hD] at hd
        clear hno hnx hpd hD
        go_wp2_with (first | (go_at_call 21; (with_reducible refine seq_gw (hd.out _) ?_); intro g))
        go_roundg (s.size - (k + 1))
        case measure => omega
        case rel => exact ⟨k + 1, by go_num, by omega, hn, hX.trans g.grown⟩
      | false =>
        have hRf := hide (hno (by rw [hpd, hD]))
        rw [hD] at hd
        clear hno hnx hpd hD
        go_wp2_with (first | (go_at_call 21; (with_reducible refine seq_gw (hd.out _) ?_); intro g))
        go_returns
        exact ⟨by rw [hRf.out]; first | rfl | simp, hXw.out.trans g.grown⟩
    · have hge : (s.size : Int) ≤ (k : Int) := by omega
      have hRt := hide (hRa.out (fun i c hi hc => hall.out i c (by omega) hc))
      clear hRa hRb hall
      go_wp2_with fail
      go_returns
      exact ⟨by rw [hRt.out]; first | rfl | simp, hXw.out⟩
theorem refMayT_c (k : Int) (s : ByteArray) (hs : s.size ≤ 9223372036854775806) (w : World) : Calls Tryd.prog 12 #[.agg #[.int .i64 k, .string s]] w fun e w' => e = .returned (.bool (mayT (k, s.data.toList))) ∧ Ext w w' := by
  rcases Nat.eq_zero_or_pos s.size with h | h
  · rw [nil_bytes h, mayT_nil]; exact rmay_nil k s h w
  have hne : s.data.toList ≠ [] := fun e => by have := congrArg List.length e; rw [str_len, List.length_nil] at this; omega
  by_cases h1 : k = 1
  · subst h1; exact rmay_1 s h hs w
  by_cases h2 : k = 2
  · subst h2; exact rmay_2 s h hs w
  by_cases h3 : k = 3
  · subst h3; exact rmay_3 s h hs w
  by_cases h4 : k = 4
  · subst h4; exact rmay_4 s h w
  rw [mayT_other h1 h2 h3 h4 hne]
  exact rmay_o k s h h1 h2 h3 h4 w
end Go.Proofs.YtjkfkecabhcnfaaDoor
