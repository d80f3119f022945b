/-
  A helper of ours: no claim of its own. Layer 19 (lex): how long the token of a kind is, by the code; what a token is; blanks skipped.
-/
import Derived.Test.YtjkfkecabhcnfaaDoorLexA
import Derived.Test.YtjkfkecabhcnfaaDoorReg
import Derived.Test.YtjkfkecabhcnfaaDoorShelf
set_option linter.unusedVariables false
set_option linter.unusedSimpArgs false
namespace Go.Proofs.YtjkfkecabhcnfaaDoor
open Go.RowKit
attribute [local go_sem] GW.cell GW.frozen In.eq_true In.le_true In.ne In.ne' In.ne_add In.ne_add' In.lt_add Upto.le_true Upto.le_add Upto.lt_add
def signsL : List UInt8 := [61, 60, 62, 43, 45, 42, 47, 37, 40, 41, 44]
theorem sign_all : ∀ n : Fin 256, decide (Lib.indexByte signsL (UInt8.ofNat n.val) < 0) = !(isS (UInt8.ofNat n.val)) := by decide +kernel
theorem sign_at (c : UInt8) : decide (Lib.indexByte signsL c < 0) = !(isS c) := by
  have h := sign_all ⟨c.toNat, c.toNat_lt⟩
  simpa using h
theorem index_c (c : UInt8) (w : World) : Calls Tryd.prog 40 #[.string ⟨#[61, 60, 62, 43, 45, 42, 47, 37, 40, 41, 44]⟩, .int .u8 c.toNat] w fun e w' => e = .returned (.int .i64 (Lib.indexByte signsL c)) ∧ Ext w w' := by
  refine (Tryd.strings_IndexByte _ c.toNat w).mono ?_
  rintro e w' ⟨rfl, rfl⟩
  refine ⟨?_, Ext.refl _⟩
  have e1 : (c.toNat : Int).toNat.toUInt8 = c := by
    rw [Int.toNat_natCast]; exact UInt8.ofNat_toNat
  rw [e1]; rfl
theorem str_upto (s : ByteArray) (k : Nat) : s.extract 0 k = ⟨(s.data.toList.take k).toArray⟩ := by
  apply ByteArray.ext
  rw [ByteArray.data_extract]
  apply Array.ext'
  simp
theorem str_from (s : ByteArray) (k : Nat) : s.extract k s.size = ⟨(s.data.toList.drop k).toArray⟩ := by
  apply ByteArray.ext
  apply Array.ext'
  rw [Lib.extract_to_end]
theorem ext2_list (s : ByteArray) (h : 2 ≤ s.size) : (s.extract 0 2).toList = [s[0], s[1]] := by
  rw [Lib.toList_data, str_upto]
  have e0 := str_drop s 0 (by omega)
  rw [List.drop_zero, str_drop s 1 (by omega)] at e0
  rw [e0]; rfl
set_option maxHeartbeats 2000000 in
set_option maxRecDepth 100000 in
theorem sign_c (s : ByteArray) (hs : s.size ≤ 9223372036854775806) (hpos : 0 < s.size) (w : World) : Calls Tryd.prog 31 #[.string s] w fun e w' => e = .returned (.int .i64 (sgnL s.data.toList : Nat)) ∧ Ext w w' := by
  have hidx := hide (fun w => index_c s[0] w)
  have hsg := sign_at s[0]
  obtain ⟨I, hI⟩ : ∃ I, I = Lib.indexByte signsL s[0] := ⟨_, rfl⟩
  rw [← hI] at hidx hsg
  clear hI
  have hposI : (0 : Int) < (s.size : Int) := by omega
  have one : ∀ (R : Nat), R = (if isS s[0] then 1 else 0) → (∀ (Q : Nat → Prop), Q R → Q R) → True := fun _ _ _ => trivial
  by_cases h1 : s.size = 1
  · have hL : s.data.toList = [s[0]] := by
      have := str_drop s 0 hpos
      rw [List.drop_zero, List.drop_of_length_le (by rw [str_len]; omega)] at this
      exact this
    rw [hL, sgn1]
    have hle : ¬ (1 : Int) < (s.size : Int) := by omega
    clear hL one
    generalize isS s[0] = q at *
    cases q
    · have hneg : I < 0 := by simpa using hsg
      clear hsg h1
      go_enter Tryd.func31, Tryd.ntmps31
      go_wp2_with (first | (go_at_call 40; (with_reducible refine seq_gw (hidx.out _) ?_); intro g))
      go_returns
      exact ⟨rfl, g.grown⟩
    · have hneg : ¬ I < 0 := by simpa using hsg
      clear hsg h1
      go_enter Tryd.func31, Tryd.ntmps31
      go_wp2_with (first | (go_at_call 40; (with_reducible refine seq_gw (hidx.out _) ?_); intro g))
      go_returns
      exact ⟨rfl, g.grown⟩
  · have h2 : 2 ≤ s.size := by omega
    have hL : s.data.toList = s[0] :: s[1] :: s.data.toList.drop 2 := by
      have e0 := str_drop s 0 hpos
      rw [str_drop s 1 (by omega)] at e0
      simpa using e0
    rw [hL, sgn2]
    have hgt : (1 : Int) < (s.size : Int) := by omega
    have h2I : (2 : Int) ≤ (s.size : Int) := by omega
    have hx := ext2_list s h2
    obtain ⟨t, ht⟩ : ∃ t, t = s.extract 0 2 := ⟨_, rfl⟩
    rw [← ht] at hx
    replace ht : s.extract 0 2 = t := ht.symm
    clear hL one h1
    generalize hc : s[0] = c at *
    generalize hd : s[1] = d at *
    cases e : isS2 c d
    · have e2 := e
      unfold isS2 at e2
      have q1 : (t.toList == [60, 62]) = false := by
        rw [hx, ← Bool.not_eq_true]; intro h; rw [beq_iff_eq] at h; injection h with ha hb; injection hb with hb _; subst ha; subst hb; simp at e2
      have q2 : (t.toList == [60, 61]) = false := by
        rw [hx, ← Bool.not_eq_true]; intro h; rw [beq_iff_eq] at h; injection h with ha hb; injection hb with hb _; subst ha; subst hb; simp at e2
      have q3 : (t.toList == [62, 61]) = false := by
        rw [hx, ← Bool.not_eq_true]; intro h; rw [beq_iff_eq] at h; injection h with ha hb; injection hb with hb _; subst ha; subst hb; simp at e2
      have q4 : (t.toList == [43, 43]) = false := by
        rw [hx, ← Bool.not_eq_true]; intro h; rw [beq_iff_eq] at h; injection h with ha hb; injection hb with hb _; subst ha; subst hb; simp at e2
      rw [if_neg (by decide)]
      replace hc := hide hc
      clear e e2 hx hd
      generalize isS c = q at *
      cases q
      · have hneg : I < 0 := by simpa using hsg
        clear hsg
        go_enter Tryd.func31, Tryd.ntmps31
        go_wp2_with (first | (go_at_call 40; rw [hc.out]; (with_reducible refine seq_gw (hidx.out _) ?_); intro g))
        go_returns
        exact ⟨rfl, g.grown⟩
      · have hneg : ¬ I < 0 := by simpa using hsg
        clear hsg
        go_enter Tryd.func31, Tryd.ntmps31
        go_wp2_with (first | (go_at_call 40; rw [hc.out]; (with_reducible refine seq_gw (hidx.out _) ?_); intro g))
        go_returns
        exact ⟨rfl, g.grown⟩
    · rw [if_pos rfl]
      unfold isS2 at e
      simp only [Bool.or_eq_true, Bool.and_eq_true, beq_iff_eq] at e
      have four : ([c, d] : List UInt8) = [60, 62] ∨ ([c, d] : List UInt8) = [60, 61] ∨ ([c, d] : List UInt8) = [62, 61] ∨ ([c, d] : List UInt8) = [43, 43] := by
        rcases e with (⟨rfl, rfl | rfl⟩ | ⟨rfl, rfl⟩) | ⟨rfl, rfl⟩ <;> simp
      clear e hc hd hsg hidx
      rcases four with e | e | e | e <;>
      (rw [e] at hx
       have q1 : (t.toList == [60, 62]) = ([60, 62] == ([60, 62] : List UInt8)) ∨ True := .inr trivial
       clear q1 e
       go_enter Tryd.func31, Tryd.ntmps31
       go_wp2_with fail
       go_returns
       exact ⟨rfl, Ext.refl w⟩)
set_option maxHeartbeats 2000000 in
set_option maxRecDepth 100000 in
theorem quote_c (s : ByteArray) (hs : s.size ≤ 9223372036854775806) (w : World) : Calls Tryd.prog 30 #[.string s] w fun e w' => e = .returned (.int .i64 (quoL s.data.toList : Nat)) ∧ Ext w w' := by
  have hrun := hide (run3_c s hs w.heap.size _ (Ob.new w 9 [.string s]))
  have hle := runN_le pQuo s.data.toList 0
  rw [str_len] at hle
  unfold quoL
  rw [str_len]
  generalize runN pQuo 0 s.data.toList = n at *
  have hOb := hide (Ob.new w 9 [.string s])
  by_cases h0 : n = 0
  · subst h0
    rw [if_pos (.inl rfl)]
    clear hle
    go_enter Tryd.func30, Tryd.ntmps30
    go_wp2_with (first | (go_at_call 25; (with_reducible refine seq_gw hrun.out ?_); intro g))
    go_returns
    exact ⟨rfl, ((Ext.refl w).alloc _).trans g.grown⟩
  · have b0 : ((n : Int) == 0) = false := by simp; omega
    by_cases h1 : n = s.size
    · rw [if_pos (.inr h1)]
      have b1 : ((n : Int) == (s.size : Int)) = true := by simp [h1]
      replace h1 := hide h1
      clear hle h0
      go_enter Tryd.func30, Tryd.ntmps30
      go_wp2_with (first | (go_at_call 25; (with_reducible refine seq_gw hrun.out ?_); intro g; have q0 := (hOb.out.ext g.grown).cell 0 rfl))
      go_returns
      exact ⟨rfl, ((Ext.refl w).alloc _).trans g.grown⟩
    · rw [if_neg (by omega)]
      have b1 : ((n : Int) == (s.size : Int)) = false := by simp; omega
      have hn : (n : Int) < s.size := by omega
      have hsI : (s.size : Int) ≤ 9223372036854775806 := by omega
      clear hle h0 h1
      go_enter Tryd.func30, Tryd.ntmps30
      go_wp2_with (first | (go_at_call 25; (with_reducible refine seq_gw hrun.out ?_); intro g; have q0 := (hOb.out.ext g.grown).cell 0 rfl))
      go_returns
      exact ⟨by first | rfl | (simp; done) | (simp; omega), ((Ext.refl w).alloc _).trans g.grown⟩
set_option maxHeartbeats 2000000 in
set_option maxRecDepth 100000 in
theorem length_c (k : Int) (s : ByteArray) (hs : s.size ≤ 9223372036854775806) (hpos : 0 < s.size) (w : World) : Calls Tryd.prog 18 #[.int .i64 k, .string s] w fun e w' => e = .returned (.int .i64 (lenK k s.data.toList : Nat)) ∧ Ext w w' := by
  have h1 := hide (run1_c s hs w.heap.size _ (Ob.new w 9 [.string s]))
  have h2 := hide (run2_c s hs w.heap.size _ (Ob.new w 9 [.string s]))
  have h3 := hide (quote_c s hs (w.alloc (.cells #[.string s] 9)))
  have h4 := hide (sign_c s hs hpos (w.alloc (.cells #[.string s] 9)))
  unfold lenK
  generalize runN pName 0 s.data.toList = n1 at *
  generalize runN pDig 0 s.data.toList = n2 at *
  generalize quoL s.data.toList = n3 at *
  generalize sgnL s.data.toList = n4 at *
  clear hpos
  by_cases k1 : k = 1
  · subst k1; rw [if_pos rfl]
    go_enter Tryd.func18, Tryd.ntmps18
    go_wp2_with (first | (go_at_call 25; (with_reducible refine seq_gw h1.out ?_); intro g))
    go_returns
    exact ⟨rfl, ((Ext.refl w).alloc _).trans g.grown⟩
  rw [if_neg k1]
  by_cases k2 : k = 2
  · subst k2; rw [if_pos rfl]
    clear k1
    go_enter Tryd.func18, Tryd.ntmps18
    go_wp2_with (first | (go_at_call 25; (with_reducible refine seq_gw h2.out ?_); intro g))
    go_returns
    exact ⟨rfl, ((Ext.refl w).alloc _).trans g.grown⟩
  rw [if_neg k2]
  by_cases k3 : k = 3
  · subst k3; rw [if_pos rfl]
    clear k1 k2
    go_enter Tryd.func18, Tryd.ntmps18
    go_wp2_with (first | (go_at_call 30; (with_reducible refine seq_gw h3.out ?_); intro g))
    go_returns
    exact ⟨rfl, ((Ext.refl w).alloc _).trans g.grown⟩
  rw [if_neg k3]
  by_cases k4 : k = 4
  · subst k4; rw [if_pos rfl]
    clear k1 k2 k3
    go_enter Tryd.func18, Tryd.ntmps18
    go_wp2_with (first | (go_at_call 31; (with_reducible refine seq_gw h4.out ?_); intro g))
    go_returns
    exact ⟨rfl, ((Ext.refl w).alloc _).trans g.grown⟩
  rw [if_neg k4]
  have b1 : (k == 1) = false := by simpa using k1
  have b2 : (k == 2) = false := by simpa using k2
  have b3 : (k == 3) = false := by simpa using k3
  have b4 : (k == 4) = false := by simpa using k4
  clear h1 h2 h3 h4 k1 k2 k3 k4
  go_enter Tryd.func18, Tryd.ntmps18
  go_wp2_with fail
  go_returns
  exact ⟨rfl, (Ext.refl w).alloc _⟩
end Go.Proofs.YtjkfkecabhcnfaaDoor
