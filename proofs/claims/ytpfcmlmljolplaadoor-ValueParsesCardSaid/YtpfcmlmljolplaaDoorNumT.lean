/-
  Layer 1 (num), 1.6: the document's own showing of a number: the text of the library's digits. Our own work.
-/
import Derived.Test.YtpfcmlmljolplaaDoorNumR
import Derived.Test.YtpfcmlmljolplaaDoorMem
import Derived.Lib.ItoaLen
import Derived.Lib.ItoaMem
set_option linter.unusedVariables false
set_option linter.unusedSimpArgs false
namespace Go.Proofs.YtpfcmlmljolplaaDoor
open Go.RowKit
attribute [local go_sem] GW.cell GW.frozen In.eq_true In.le_true In.ne In.ne' In.ne_add In.ne_add' In.lt_add Upto.le_true Upto.le_add Upto.lt_add
/-- The digits ahead of the last. -/
def preD (m : Nat) : List UInt8 := if m < 10 then [] else Lib.decDigits (m / 10)
def dig (m : Nat) : UInt8 := UInt8.ofNat (48 + m % 10)
theorem dig_toNat (m : Nat) : (dig m).toNat = 48 + m % 10 := by unfold dig; simp; omega
theorem dec_pre (m : Nat) : Lib.decDigits m = preD m ++ [dig m] := by
  unfold preD dig
  by_cases h : m < 10
  · rw [if_pos h, Lib.decDigits_one h, Nat.mod_eq_of_lt h]; rfl
  · rw [if_neg h]; rw [Lib.decDigits, dif_neg h]
theorem pre_step {m : Nat} (h : 10 ≤ m) (l : List UInt8) : preD m ++ l = preD (m / 10) ++ (dig (m / 10) :: l) := by
  have : preD m = Lib.decDigits (m / 10) := by unfold preD; rw [if_neg (by omega)]
  rw [this, dec_pre (m / 10)]; simp
theorem pre_small {m : Nat} (h : m < 10) : preD m = [] := by unfold preD; rw [if_pos h]
theorem str_app (c : UInt8) (l : List UInt8) : (⟨[c].toArray⟩ : ByteArray) ++ ⟨l.toArray⟩ = ⟨(c :: l).toArray⟩ := by
  apply ByteArray.ext; simp [ByteArray.append]
theorem conv_one (c : UInt8) (w : World) (x : Int) (t : TypeId) (hc : (c.toNat : Int) = x) :
    (convert 41 9 (.slice (some ⟨w.heap.size, 0, none⟩) 1 1)).run Tryd.prog (w.alloc (.cells #[.int .u8 x] t)) = .ok (.string ⟨[c].toArray⟩) (w.alloc (.cells #[.int .u8 x] t)) := by
  have h := run_convert_bytes_arg (P := Tryd.prog) (w.alloc (.cells #[.int .u8 x] t)) 41 5 Tryd.underlying41 Tryd.underlying5 w.heap.size 0 1 1 [x] rfl (fun i hi => by
    obtain rfl : i = 0 := by omega
    simp only [World.cell?, World.alloc, Array.getElem?_push, if_true]; simp) 9 Tryd.underlying9
  rw [h, ← hc]
  simp [strOfNums]
set_option maxHeartbeats 4000000 in
theorem refShowN_c (n : Nat) (hn : n ≤ 9223372036854775807) (w : World) : Calls Tryd.prog 16 #[.int .i64 (n : Int)] w fun e w' => e = .returned (.string ⟨(Lib.itoa n).toArray⟩) ∧ Ext w w' := by
  have hI : Lib.itoa (n : Int) = Lib.decDigits n := Lib.itoa_nonneg n
  have hlen := hide (Lib.itoa_length_le (n : Int) (by omega) (by omega))
  rw [hI] at hlen
  rw [hI]
  have hpre := hide (dec_pre n)
  have e0 : ((n : Int) == -9223372036854775808) = false := by first | (simp; done) | (simp; omega)
  go_enter Tryd.func16, Tryd.ntmps16
  go_wp2_with (rw [conv_one (dig n) _ _ _ (by rw [dig_toNat]; omega)]; simp only [Result.andThen, Oper.upon_value])
  go_loopw [0, 3] (fun x v wr => ∃ (m : Nat) (l : List UInt8), x = .int .i64 (m : Int) ∧ v = .string ⟨l.toArray⟩ ∧ m ≤ n ∧ Hid (Lib.decDigits n = preD m ++ l) ∧ Ext w wr) (fun x _ _ => (intOf x).toNat)
  case atStart => exact ⟨n, _, rfl, rfl, Nat.le_refl _, hpre, (Ext.refl _).alloc _⟩
  case round =>
    obtain ⟨m, l, rfl, rfl, hm, hl, hX⟩ := hrel
    have hle : l.length ≤ 21 := by
      have h1 := hlen.out
      rw [hl.out, List.length_append] at h1; omega
    by_cases h10 : 10 ≤ m
    · have hl' := hide (hl.out.trans (pre_step h10 l))
      replace h10 : (10 : Int) ≤ (m : Int) := by omega
      have hsz : (⟨l.toArray⟩ : ByteArray).size ≤ 21 := hle
      go_wp2_with (rw [conv_one (dig (m / 10)) _ _ _ (by rw [dig_toNat]; omega)]; simp only [Result.andThen, Oper.upon_value])
      go_roundw
      case rel => exact ⟨m / 10, dig (m / 10) :: l, by go_num, by rw [str_app], by omega, hl', hX.alloc _⟩
      case measure => simp [intOf]; omega
    · have hf := hl.out
      rw [pre_small (by omega), List.nil_append] at hf
      replace h10 : (m : Int) < 10 := by omega
      clear hl hpre hlen hI
      replace hf := hide hf
      go_wp2_with fail
      go_returns
      exact ⟨by rw [hf.out]; rfl, hX⟩
theorem least_digs : Lib.itoa (-9223372036854775808) = [45, 57, 50, 50, 51, 51, 55, 50, 48, 51, 54, 56, 53, 52, 55, 55, 53, 56, 48, 56] := by
  have h := dec_of [57, 50, 50, 51, 51, 55, 50, 48, 51, 54, 56, 53, 52, 55, 55, 53, 56, 48, 56] _ rfl (by decide +kernel) (by simp) (.inl (by decide +kernel))
  have e : dval 0 [57, 50, 50, 51, 51, 55, 50, 48, 51, 54, 56, 53, 52, 55, 55, 53, 56, 48, 56] = 9223372036854775808 := by decide +kernel
  rw [e] at h
  have := Lib.itoa_neg 9223372036854775808 (by omega)
  rw [h] at this
  exact this
theorem str_minus (l : List UInt8) : ({ data := #[45] } : ByteArray) ++ ⟨l.toArray⟩ = ⟨(45 :: l).toArray⟩ := str_app 45 l
set_option maxHeartbeats 4000000 in
theorem refShow_c (n : Int) (h : -9223372036854775808 ≤ n ∧ n ≤ 9223372036854775807) (w : World) : Calls Tryd.prog 16 #[.int .i64 n] w fun e w' => e = .returned (.string ⟨(Lib.itoa n).toArray⟩) ∧ Ext w w' := by
  by_cases h0 : 0 ≤ n
  · obtain ⟨k, rfl⟩ := Int.eq_ofNat_of_zero_le h0
    exact refShowN_c k (by omega) w
  by_cases hm : n = -9223372036854775808
  · subst hm
    have e := hide least_digs
    clear h h0
    go_enter Tryd.func16, Tryd.ntmps16
    go_wp2_with fail
    go_returns
    exact ⟨by rw [e.out]; rfl, Ext.refl _⟩
  · obtain ⟨k, rfl⟩ : ∃ k : Nat, n = -(k : Int) := ⟨n.natAbs, by omega⟩
    have hk : k ≤ 9223372036854775807 := by omega
    have h1 : 1 ≤ k := by omega
    have e := hide (Lib.itoa_neg k h1)
    have hc := hide (refShowN_c k hk)
    have hl := Lib.itoa_length_le (k : Int) (by omega) (by omega)
    rw [Lib.itoa_nonneg] at hl
    rw [Lib.itoa_nonneg] at hc
    have hsz : (⟨(Lib.decDigits k).toArray⟩ : ByteArray).size ≤ 21 := hl
    have e0 : (-(k : Int) == -9223372036854775808) = false := by simp; omega
    have e1 : -(k : Int) < 0 := by omega
    clear hm h0 h
    go_enter Tryd.func16, Tryd.ntmps16
    go_wp2_with (go_at_call 16; (first | (with_reducible refine seq_gw' (hc.out _) ?_) | (with_reducible refine seq_gw (hc.out _) ?_)); intro g)
    go_returns
    refine ⟨by rw [e.out]; simp only [Array.getD_eq_getD_getElem?]; simp [str_minus], ?_⟩
    repeat (first | exact Ext.refl _ | with_reducible assumption | refine Ext.alloc ?_ _ | refine Ext.drew ?_ | refine ext_gw ?_ _)
end Go.Proofs.YtpfcmlmljolplaaDoor
