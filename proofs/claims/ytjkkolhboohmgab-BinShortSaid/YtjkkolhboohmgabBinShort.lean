/-
  Layer 3 (bin), 3.4: of whatever is read as a number, or a signed one, the bytes that were read are the number's. No condition.
-/
import Derived.Test.YtjkkolhboohmgabBinL
import Derived.Test.YtjkkolhboohmgabBinP
import Derived.Test.YtjkkolhboohmgabReg
import Derived.Test.YtjkkolhboohmgabArg
import Derived.WalkKit
import Derived.ProofKit
import Derived.OpenShut
import Derived.ShutString
import Derived.ChangeOld
import Derived.Below
import Derived.Lib.SmallJoins
import Derived.SizedLaws
import Derived.Deep.CondSized
import Derived.JoinedCond
set_option linter.unusedVariables false
set_option linter.unusedSimpArgs false
namespace Go.Proofs.Ytjkkolhboohmgab.binShort
open Go.ChangeShapes Go.WideShapes Go.ChangeAt Go.RowKit Go.Joins
open Go.ChangeMaps (open_string shut_string)
attribute [local go_sem] GW.cell GW.frozen In.eq_true In.le_true In.ne In.ne' In.ne_add In.ne_add' In.lt_add Upto.le_true Upto.le_add Upto.lt_add
attribute [-go_sem] sliced
attribute [local go_sem] sliced_eq

theorem Rdr.fr0 {W w : World} {S : List Nat} {b : Nat} {st : List UInt8 × Int} (h : Rdr W S b st) (k : Ext W w) : Rdr w S b st := by
  obtain ⟨hb, hi, v, hO, hB⟩ := h
  exact ⟨hb, hi, v, hO.ext k, Sl.ext hB k⟩
theorem rdr_ext {w w' : World} {S : List Nat} {b : Nat} {st : List UInt8 × Int} (h : Rdr w S b st) (k : Ext w w') : Rdr w' S b st := by
  obtain ⟨hb, hi, v, hO, hB⟩ := h
  exact ⟨hb, hi, v, hO.ext k, Sl.ext hB k⟩
theorem run_cut_h {t : TypeId} {e : TypeId} {A : Option Addr} {n cap k : Nat} (hk : (k : Int) ≤ (cap : Int)) (ht : Try.prog.underlying t = some (.slice e)) (hs : ∀ w, (sizeOf e).run Try.prog w = .ok 1 w) (w : World) : (Instr.sliceAt t (.slice A n cap) none (some (.int .i64 (k : Int))) none).run Try.prog w = .ok (.slice (cutA A 0 cap 1) k cap) w := by
  have he : Try.prog.elem t = e := by unfold Program.elem; simp [ht]
  have ht' : Try.prog.underlying t = some (.slice (Try.prog.elem t)) := by rw [he]; exact ht
  rw [run_sliceAt_slice w t _ _ _ _ ht', run_slice_h w t A n cap ht' .i64 k (by omega) hk, he, hs]
  simp [Result.andThen, sliced_eq]
def L9y (l : List UInt8) (A : Option Addr) (cap b : Nat) : List Fact := [(.is (.pointer (some ⟨b, 0, none⟩))), (.is (.int .i64 (0))), (.is (.bool true)), (.is (.bool true)), (.is (.pointer (some ⟨b, 0, none⟩))), (.is (.int .i64 (parR 9 l).length)), (.is (.slice A l.length cap)), (.is (.int .i64 l.length)), (.is (.bool false)), (.is (.bool false)), (.is (.slice A l.length cap)), (.is (.slice A l.length cap)), (.is (.int .i64 l.length)), (.is (.pointer (some ⟨b, 0, none⟩))), (.is (.int .i64 (parR 9 l).length)), (.is (.int .i64 ((lead l + 1 : Nat) : Int))), (.is (.slice (cutA A 0 cap 1) (lead l + 1) cap)), (.is (.string ⟨(l.take (lead l + 1)).toArray⟩)), (.is (.int .i64 (parV 9 l : Nat))), (.bytes (numB (parV 9 l))), (.is (.string ⟨(l.take (lead l + 1)).toArray⟩)), (.is (.bool false)), (.is (.bool false)), (.is (.bool false))]
def L9n (l : List UInt8) (b : Nat) : List Fact := [(.is (.pointer (some ⟨b, 0, none⟩))), (.is (.int .i64 (parE 9 l))), (.is (.bool false)), (.is (.bool false)), (.is (undef)), (.is (undef)), (.is (undef)), (.is (undef)), (.is (undef)), (.is (undef)), (.is (undef)), (.is (undef)), (.is (undef)), (.is (undef)), (.is (undef)), (.is (undef)), (.is (undef)), (.is (undef)), (.is (undef)), (.is (undef)), (.is (undef)), (.is (undef)), (.is (undef)), (.is (.bool false))]
def L10y (l : List UInt8) (A : Option Addr) (cap b : Nat) : List Fact := [(.is (.pointer (some ⟨b, 0, none⟩))), (.is (.int .i64 (0))), (.is (.bool true)), (.is (.bool true)), (.is (.pointer (some ⟨b, 0, none⟩))), (.is (.int .i64 (parR 10 l).length)), (.is (.slice A l.length cap)), (.is (.int .i64 l.length)), (.is (.bool false)), (.is (.bool false)), (.is (.slice A l.length cap)), (.is (.slice A l.length cap)), (.is (.int .i64 l.length)), (.is (.pointer (some ⟨b, 0, none⟩))), (.is (.int .i64 (parR 10 l).length)), (.is (.int .i64 ((lead l + 1 : Nat) : Int))), (.is (.slice (cutA A 0 cap 1) (lead l + 1) cap)), (.is (.string ⟨(l.take (lead l + 1)).toArray⟩)), (.is (.int .i64 (unz (parV 10 l)))), (.bytes (intB (unz (parV 10 l)))), (.is (.string ⟨(l.take (lead l + 1)).toArray⟩)), (.is (.bool false)), (.is (.bool false)), (.is (.bool false))]
def L10n (l : List UInt8) (b : Nat) : List Fact := [(.is (.pointer (some ⟨b, 0, none⟩))), (.is (.int .i64 (parE 10 l))), (.is (.bool false)), (.is (.bool false)), (.is (undef)), (.is (undef)), (.is (undef)), (.is (undef)), (.is (undef)), (.is (undef)), (.is (undef)), (.is (undef)), (.is (undef)), (.is (undef)), (.is (undef)), (.is (undef)), (.is (undef)), (.is (undef)), (.is (undef)), (.is (undef)), (.is (undef)), (.is (undef)), (.is (undef)), (.is (.bool false))]

set_option maxHeartbeats 8000000 in
set_option maxRecDepth 100000 in
theorem walk (l : List UInt8) (v : Value) (hl : l.length ≤ 140737488351232) (w : World) (hv : By w [] v l) : Calls Try.prog 3 #[v] w fun e w' => e = .returned (.bool true) ∧ Ext w w' := by
  obtain ⟨A, cap, rfl, hlc, hcm, _⟩ := id hv
  unfold maxLen at hcm
  have hlm : l.length ≤ 9223372036854775807 := by omega
  have hv9 := parV_nine l
  have hv10 : -9223372036854775808 ≤ unz (parV 10 l) ∧ unz (parV 10 l) ≤ 9223372036854775807 := by have := parV_ten l; unfold unz; split <;> omega
  have hcut1 : ∀ (k : Nat), (k : Int) ≤ (cap : Int) → ∀ w, (Instr.sliceAt 22 (.slice A l.length cap) none (some (.int .i64 (k : Int))) none).run Try.prog w = .ok (.slice (cutA A 0 cap 1) k cap) w := fun k hk w => run_cut_h hk Try.underlying22 (fun w => by simp [go_sem]) w
  replace hcut1 := hide hcut1
  replace hv := hide hv
  have n9 : Hid (numVal 9 l 0 = parV 9 l) := rfl
  have n10 : Hid (numVal 10 l 0 = parV 10 l) := rfl
  replace hv9 := hide hv9
  replace hv10 := hide hv10
  go_enter Try.func3, Try.ntmps3
  go_wp2_with (first | (go_at_call 8; refine (newReader_c [] _ l hl _ hv.out (by simp)).mono ?_; rintro ee w1 ⟨b, rfl, hb, hR1, hX1⟩) | (go_at_call 9; refine (rnum_c _ b _ _ _ hR1).mono ?_; rintro ee w2 ⟨rfl, hR0, hF0⟩; rw [n9.out]; replace hR0 := hide hR0))
  have hbS : ∀ x, x ∈ [b] → w.heap.size ≤ x := by intro x hx; simp at hx; subst hx; exact hb
  have hX2 := ext_fr hX1 hF0 hbS
  replace hX2 := hide hX2
  obtain hX2 := hX2.out
  refine wp_region_list (if parE 9 l = 0 then L9y l A cap b else L9n l b) (by kernel_rfl) (by kernel_rfl) (by kernel_rfl) ?_ ?_
  · by_cases hp : parE 9 l = 0
    · rw [if_pos hp]
      have hle := parE_ne hp
      have hsh := par_short hp
      have hcat := congrArg List.length hsh.2
      have htk : (l.take (lead l + 1)).length = lead l + 1 := by rw [List.length_take]; omega
      rw [List.length_append, htk] at hcat
      have hcut : ((lead l + 1 : Nat) : Int) ≤ (cap : Int) := by omega
      have hcv : ∀ w', Ext w2 w' → (convert 22 9 (.slice (cutA A 0 cap 1) (lead l + 1) cap)).run Try.prog w' = .ok (.string ⟨(l.take (lead l + 1)).toArray⟩) w' := by
        intro w' hx
        have h := (Sl.ext (Sl.ext hv.out hX2) hx).cut 0 (lead l + 1) cap (by omega) (by omega) (by omega) (Nat.le_refl _)
        rw [sliced_eq, Nat.zero_mul, List.drop_zero, Nat.mul_one, bs_take, Nat.sub_zero, Nat.sub_zero] at h
        have h' : By w' [] (.slice (cutA A 0 cap 1) (lead l + 1) cap) (l.take (lead l + 1)) := by unfold By; rw [htk]; exact h
        exact run_str Try.underlying22 Try.underlying5 Try.underlying9 h'
      have hR : Rdr w2 [b] b (parR 9 l, 0) := by have := hR0.out; unfold numSt at this; rw [if_pos rfl, hp] at this; exact this
      have heq : numB (parV 9 l) = l.take (lead l + 1) := by unfold numB; rw [if_neg (by omega)]; simpa using hsh.1
      refine ⟨?_, ?_, ?_, ?_, ?_, ?_, ?_, ?_, ?_, ?_, ?_, ?_, ?_, ?_, ?_, ?_, ?_, ?_, ?_, ?_, ?_, ?_, ?_, ?_, trivial⟩
      · intro b1 w' h
        have f3 : b1.tmps.getD 3 undef = .pointer (some ⟨b, 0, none⟩) := h.else_ 3 (of_decide_eq_true (by kernel_rfl))
        exact (good_move (wanted_none rfl) rfl f3)
      · intro b1 w' h
        have f9 : b1.tmps.getD 9 undef = .pointer (some ⟨b, 0, none⟩) := h.dep 0 _ 9 (by kernel_rfl) rfl rfl
        refine good_call (wanted_none rfl) rfl (enters Try.func10 (by kernel_rfl) rfl) ?_
        rw [show (#[.tmp 9] : Array Operand).map b1.eval = #[.pointer (some ⟨b, 0, none⟩)] by simp [Act.eval, f9]]
        exact (err_c _ b _ _ _ (rdr_ext hR h.ext)).mono fun e w1 ⟨he, hx⟩ => ⟨_, he, rfl, hx ▸ Ext.refl _⟩
      · intro b1 w' h
        have f10 : b1.tmps.getD 10 undef = .int .i64 (0) := h.dep 1 _ 10 (by kernel_rfl) rfl rfl
        exact (good_bin (wanted_none rfl) rfl f10 rfl (by exact guard_int _) (by exact run_eql_int Try.underlying26 _ _ (by rfl) _) rfl)
      · intro b1 w' h
        have f11 : b1.tmps.getD 11 undef = .bool true := h.dep 2 _ 11 (by kernel_rfl) rfl rfl
        exact (good_move (wanted_none rfl) rfl f11)
      · intro b1 w' h
        have f12 : b1.tmps.getD 12 undef = .bool true := h.dep 3 _ 12 (by kernel_rfl) rfl rfl
        have f3 : b1.tmps.getD 3 undef = .pointer (some ⟨b, 0, none⟩) := h.else_ 3 (of_decide_eq_true (by kernel_rfl))
        exact (good_move (wanted_yes rfl rfl f12) rfl f3)
      · intro b1 w' h
        have f12 : b1.tmps.getD 12 undef = .bool true := h.dep 3 _ 12 (by kernel_rfl) rfl rfl
        have f13 : b1.tmps.getD 13 undef = .pointer (some ⟨b, 0, none⟩) := h.dep 4 _ 13 (by kernel_rfl) rfl rfl
        refine good_call (wanted_yes rfl rfl f12) rfl (enters Try.func11 (by kernel_rfl) rfl) ?_
        rw [show (#[.tmp 13] : Array Operand).map b1.eval = #[.pointer (some ⟨b, 0, none⟩)] by simp [Act.eval, f13]]
        exact (left_c _ b _ _ _ (rdr_ext hR h.ext)).mono fun e w1 ⟨he, hx⟩ => ⟨_, he, rfl, hx ▸ Ext.refl _⟩
      · intro b1 w' h
        have f12 : b1.tmps.getD 12 undef = .bool true := h.dep 3 _ 12 (by kernel_rfl) rfl rfl
        have f0 : b1.tmps.getD 0 undef = .slice A l.length cap := h.else_ 0 (of_decide_eq_true (by kernel_rfl))
        exact (good_move (wanted_yes rfl rfl f12) rfl f0)
      · intro b1 w' h
        have f12 : b1.tmps.getD 12 undef = .bool true := h.dep 3 _ 12 (by kernel_rfl) rfl rfl
        have f15 : b1.tmps.getD 15 undef = .slice A l.length cap := h.dep 6 _ 15 (by kernel_rfl) rfl rfl
        exact (good_len (wanted_yes rfl rfl f12) rfl Try.underlying22 f15 rfl)
      · intro b1 w' h
        have f12 : b1.tmps.getD 12 undef = .bool true := h.dep 3 _ 12 (by kernel_rfl) rfl rfl
        have f14 : b1.tmps.getD 14 undef = .int .i64 (parR 9 l).length := h.dep 5 _ 14 (by kernel_rfl) rfl rfl
        have f16 : b1.tmps.getD 16 undef = .int .i64 l.length := h.dep 7 _ 16 (by kernel_rfl) rfl rfl
        exact (good_bin (wanted_yes rfl rfl f12) rfl f14 f16 (by exact guard_int _) (by exact run_gtr_int Try.underlying3 _ _ (by simp; omega) _) rfl)
      · intro b1 w' h
        have f12 : b1.tmps.getD 12 undef = .bool true := h.dep 3 _ 12 (by kernel_rfl) rfl rfl
        have f17 : b1.tmps.getD 17 undef = .bool false := h.dep 8 _ 17 (by kernel_rfl) rfl rfl
        exact (good_move (wanted_yes rfl rfl f12) rfl f17)
      · intro b1 w' h
        have f18 : b1.tmps.getD 18 undef = .bool false := h.dep 9 _ 18 (by kernel_rfl) rfl rfl
        have f0 : b1.tmps.getD 0 undef = .slice A l.length cap := h.else_ 0 (of_decide_eq_true (by kernel_rfl))
        exact (good_move (wanted_yes rfl rfl f18) rfl f0)
      · intro b1 w' h
        have f18 : b1.tmps.getD 18 undef = .bool false := h.dep 9 _ 18 (by kernel_rfl) rfl rfl
        have f0 : b1.tmps.getD 0 undef = .slice A l.length cap := h.else_ 0 (of_decide_eq_true (by kernel_rfl))
        exact (good_move (wanted_yes rfl rfl f18) rfl f0)
      · intro b1 w' h
        have f18 : b1.tmps.getD 18 undef = .bool false := h.dep 9 _ 18 (by kernel_rfl) rfl rfl
        have f20 : b1.tmps.getD 20 undef = .slice A l.length cap := h.dep 11 _ 20 (by kernel_rfl) rfl rfl
        exact (good_len (wanted_yes rfl rfl f18) rfl Try.underlying22 f20 rfl)
      · intro b1 w' h
        have f18 : b1.tmps.getD 18 undef = .bool false := h.dep 9 _ 18 (by kernel_rfl) rfl rfl
        have f3 : b1.tmps.getD 3 undef = .pointer (some ⟨b, 0, none⟩) := h.else_ 3 (of_decide_eq_true (by kernel_rfl))
        exact (good_move (wanted_yes rfl rfl f18) rfl f3)
      · intro b1 w' h
        have f18 : b1.tmps.getD 18 undef = .bool false := h.dep 9 _ 18 (by kernel_rfl) rfl rfl
        have f22 : b1.tmps.getD 22 undef = .pointer (some ⟨b, 0, none⟩) := h.dep 13 _ 22 (by kernel_rfl) rfl rfl
        refine good_call (wanted_yes rfl rfl f18) rfl (enters Try.func11 (by kernel_rfl) rfl) ?_
        rw [show (#[.tmp 22] : Array Operand).map b1.eval = #[.pointer (some ⟨b, 0, none⟩)] by simp [Act.eval, f22]]
        exact (left_c _ b _ _ _ (rdr_ext hR h.ext)).mono fun e w1 ⟨he, hx⟩ => ⟨_, he, rfl, hx ▸ Ext.refl _⟩
      · intro b1 w' h
        have f18 : b1.tmps.getD 18 undef = .bool false := h.dep 9 _ 18 (by kernel_rfl) rfl rfl
        have f21 : b1.tmps.getD 21 undef = .int .i64 l.length := h.dep 12 _ 21 (by kernel_rfl) rfl rfl
        have f23 : b1.tmps.getD 23 undef = .int .i64 (parR 9 l).length := h.dep 14 _ 23 (by kernel_rfl) rfl rfl
        exact (good_bin (wanted_yes rfl rfl f18) rfl f21 f23 (by exact guard_int _) (by exact run_sub_i64 Try.underlying3 _ _ _ (by omega) (by omega) _) rfl)
      · intro b1 w' h
        have f18 : b1.tmps.getD 18 undef = .bool false := h.dep 9 _ 18 (by kernel_rfl) rfl rfl
        have f19 : b1.tmps.getD 19 undef = .slice A l.length cap := h.dep 10 _ 19 (by kernel_rfl) rfl rfl
        have f24 : b1.tmps.getD 24 undef = .int .i64 ((lead l + 1 : Nat) : Int) := h.dep 15 _ 24 (by kernel_rfl) rfl rfl
        exact (good_slice (wanted_yes rfl rfl f18) rfl f19 rfl (show Option.map b1.eval (some (.tmp 24)) = some (.int .i64 ((lead l + 1 : Nat) : Int)) by simp only [Option.map_some, Act.eval, f24]) rfl (hcut1.out _ hcut _) rfl)
      · intro b1 w' h
        have f18 : b1.tmps.getD 18 undef = .bool false := h.dep 9 _ 18 (by kernel_rfl) rfl rfl
        have f25 : b1.tmps.getD 25 undef = .slice (cutA A 0 cap 1) (lead l + 1) cap := h.dep 16 _ 25 (by kernel_rfl) rfl rfl
        exact (good_convert (wanted_yes rfl rfl f18) rfl (by rw [show b1.eval (.tmp 25) = .slice (cutA A 0 cap 1) (lead l + 1) cap from f25]; exact hcv _ h.ext) rfl)
      · intro b1 w' h
        have f18 : b1.tmps.getD 18 undef = .bool false := h.dep 9 _ 18 (by kernel_rfl) rfl rfl
        have f4 : b1.tmps.getD 4 undef = .int .i64 (parV 9 l : Nat) := h.else_ 4 (of_decide_eq_true (by kernel_rfl))
        exact (good_move (wanted_yes rfl rfl f18) rfl f4)
      · intro b1 w' h
        have f18 : b1.tmps.getD 18 undef = .bool false := h.dep 9 _ 18 (by kernel_rfl) rfl rfl
        have f27 : b1.tmps.getD 27 undef = .int .i64 (parV 9 l : Nat) := h.dep 18 _ 27 (by kernel_rfl) rfl rfl
        refine good_call (wanted_yes rfl rfl f18) rfl (enters Try.func12 (by kernel_rfl) rfl) ?_
        rw [show (#[.tmp 27] : Array Operand).map b1.eval = #[.int .i64 (parV 9 l : Nat)] by simp [Act.eval, f27]]
        exact (num_c _ hv9.out _).mono fun e w1 ⟨v, he, ho, hx⟩ => ⟨v, he, Sl.own ho (by simp), hx⟩
      · intro b1 w' h
        have f18 : b1.tmps.getD 18 undef = .bool false := h.dep 9 _ 18 (by kernel_rfl) rfl rfl
        have f28 := h.dep 19 _ 28 (by kernel_rfl) rfl rfl
        exact (good_convert (wanted_yes rfl rfl f18) rfl (run_str Try.underlying22 Try.underlying5 Try.underlying9 (show By w' [] (b1.tmps.getD 28 undef) (l.take (lead l + 1)) from by rw [← heq]; exact f28)) rfl)
      · intro b1 w' h
        have f18 : b1.tmps.getD 18 undef = .bool false := h.dep 9 _ 18 (by kernel_rfl) rfl rfl
        have f26 : b1.tmps.getD 26 undef = .string ⟨(l.take (lead l + 1)).toArray⟩ := h.dep 17 _ 26 (by kernel_rfl) rfl rfl
        have f29 : b1.tmps.getD 29 undef = .string ⟨(l.take (lead l + 1)).toArray⟩ := h.dep 20 _ 29 (by kernel_rfl) rfl rfl
        exact (good_bin (wanted_yes rfl rfl f18) rfl f26 f29 (by exact guard_str _) (by first | exact run_neq_str Try.underlying9 _ _) rfl)
      · intro b1 w' h
        have f12 : b1.tmps.getD 12 undef = .bool true := h.dep 3 _ 12 (by kernel_rfl) rfl rfl
        have f18 : b1.tmps.getD 18 undef = .bool false := h.dep 9 _ 18 (by kernel_rfl) rfl rfl
        have f30 : b1.tmps.getD 30 undef = .bool false := h.dep 21 _ 30 (by kernel_rfl) rfl rfl
        exact (good_pickF (wanted_yes rfl rfl f12) rfl f18 f30)
      · intro b1 w' h
        have f12 : b1.tmps.getD 12 undef = .bool true := h.dep 3 _ 12 (by kernel_rfl) rfl rfl
        have f31 : b1.tmps.getD 31 undef = .bool false := h.dep 22 _ 31 (by kernel_rfl) rfl rfl
        exact (good_pick (wanted_none rfl) rfl f12 f31)
    · rw [if_neg hp]
      have hR : Rdr w2 [b] b ([], parE 9 l) := by have := hR0.out; unfold numSt at this; rw [if_pos rfl, (par_no hp).2] at this; exact this
      refine ⟨?_, ?_, ?_, ?_, ?_, ?_, ?_, ?_, ?_, ?_, ?_, ?_, ?_, ?_, ?_, ?_, ?_, ?_, ?_, ?_, ?_, ?_, ?_, ?_, trivial⟩
      · intro b1 w' h
        have f3 : b1.tmps.getD 3 undef = .pointer (some ⟨b, 0, none⟩) := h.else_ 3 (of_decide_eq_true (by kernel_rfl))
        exact (good_move (wanted_none rfl) rfl f3)
      · intro b1 w' h
        have f9 : b1.tmps.getD 9 undef = .pointer (some ⟨b, 0, none⟩) := h.dep 0 _ 9 (by kernel_rfl) rfl rfl
        refine good_call (wanted_none rfl) rfl (enters Try.func10 (by kernel_rfl) rfl) ?_
        rw [show (#[.tmp 9] : Array Operand).map b1.eval = #[.pointer (some ⟨b, 0, none⟩)] by simp [Act.eval, f9]]
        exact (err_c _ b _ _ _ (rdr_ext hR h.ext)).mono fun e w1 ⟨he, hx⟩ => ⟨_, he, rfl, hx ▸ Ext.refl _⟩
      · intro b1 w' h
        have f10 : b1.tmps.getD 10 undef = .int .i64 (parE 9 l) := h.dep 1 _ 10 (by kernel_rfl) rfl rfl
        exact (good_bin (wanted_none rfl) rfl f10 rfl (by exact guard_int _) (by exact run_eql_int Try.underlying26 _ _ (by simpa using hp) _) rfl)
      · intro b1 w' h
        have f11 : b1.tmps.getD 11 undef = .bool false := h.dep 2 _ 11 (by kernel_rfl) rfl rfl
        exact (good_move (wanted_none rfl) rfl f11)
      · intro b1 w' h
        have f12 : b1.tmps.getD 12 undef = .bool false := h.dep 3 _ 12 (by kernel_rfl) rfl rfl
        exact (good_skip (wanted_no rfl rfl f12) rfl)
      · intro b1 w' h
        have f12 : b1.tmps.getD 12 undef = .bool false := h.dep 3 _ 12 (by kernel_rfl) rfl rfl
        exact (good_skip (wanted_no rfl rfl f12) rfl)
      · intro b1 w' h
        have f12 : b1.tmps.getD 12 undef = .bool false := h.dep 3 _ 12 (by kernel_rfl) rfl rfl
        exact (good_skip (wanted_no rfl rfl f12) rfl)
      · intro b1 w' h
        have f12 : b1.tmps.getD 12 undef = .bool false := h.dep 3 _ 12 (by kernel_rfl) rfl rfl
        exact (good_skip (wanted_no rfl rfl f12) rfl)
      · intro b1 w' h
        have f12 : b1.tmps.getD 12 undef = .bool false := h.dep 3 _ 12 (by kernel_rfl) rfl rfl
        exact (good_skip (wanted_no rfl rfl f12) rfl)
      · intro b1 w' h
        have f12 : b1.tmps.getD 12 undef = .bool false := h.dep 3 _ 12 (by kernel_rfl) rfl rfl
        exact (good_skip (wanted_no rfl rfl f12) rfl)
      · intro b1 w' h
        have f18 : b1.tmps.getD 18 undef = undef := h.dep 9 _ 18 (by kernel_rfl) rfl rfl
        exact (good_skip (wanted_undef rfl rfl f18) rfl)
      · intro b1 w' h
        have f18 : b1.tmps.getD 18 undef = undef := h.dep 9 _ 18 (by kernel_rfl) rfl rfl
        exact (good_skip (wanted_undef rfl rfl f18) rfl)
      · intro b1 w' h
        have f18 : b1.tmps.getD 18 undef = undef := h.dep 9 _ 18 (by kernel_rfl) rfl rfl
        exact (good_skip (wanted_undef rfl rfl f18) rfl)
      · intro b1 w' h
        have f18 : b1.tmps.getD 18 undef = undef := h.dep 9 _ 18 (by kernel_rfl) rfl rfl
        exact (good_skip (wanted_undef rfl rfl f18) rfl)
      · intro b1 w' h
        have f18 : b1.tmps.getD 18 undef = undef := h.dep 9 _ 18 (by kernel_rfl) rfl rfl
        exact (good_skip (wanted_undef rfl rfl f18) rfl)
      · intro b1 w' h
        have f18 : b1.tmps.getD 18 undef = undef := h.dep 9 _ 18 (by kernel_rfl) rfl rfl
        exact (good_skip (wanted_undef rfl rfl f18) rfl)
      · intro b1 w' h
        have f18 : b1.tmps.getD 18 undef = undef := h.dep 9 _ 18 (by kernel_rfl) rfl rfl
        exact (good_skip (wanted_undef rfl rfl f18) rfl)
      · intro b1 w' h
        have f18 : b1.tmps.getD 18 undef = undef := h.dep 9 _ 18 (by kernel_rfl) rfl rfl
        exact (good_skip (wanted_undef rfl rfl f18) rfl)
      · intro b1 w' h
        have f18 : b1.tmps.getD 18 undef = undef := h.dep 9 _ 18 (by kernel_rfl) rfl rfl
        exact (good_skip (wanted_undef rfl rfl f18) rfl)
      · intro b1 w' h
        have f18 : b1.tmps.getD 18 undef = undef := h.dep 9 _ 18 (by kernel_rfl) rfl rfl
        exact (good_skip (wanted_undef rfl rfl f18) rfl)
      · intro b1 w' h
        have f18 : b1.tmps.getD 18 undef = undef := h.dep 9 _ 18 (by kernel_rfl) rfl rfl
        exact (good_skip (wanted_undef rfl rfl f18) rfl)
      · intro b1 w' h
        have f18 : b1.tmps.getD 18 undef = undef := h.dep 9 _ 18 (by kernel_rfl) rfl rfl
        exact (good_skip (wanted_undef rfl rfl f18) rfl)
      · intro b1 w' h
        have f12 : b1.tmps.getD 12 undef = .bool false := h.dep 3 _ 12 (by kernel_rfl) rfl rfl
        exact (good_skip (wanted_no rfl rfl f12) rfl)
      · intro b1 w' h
        have f12 : b1.tmps.getD 12 undef = .bool false := h.dep 3 _ 12 (by kernel_rfl) rfl rfl
        exact (good_pickF (wanted_none rfl) rfl f12 rfl)
  intro b1 w7 hX7 hd7 hz7 he7 hf7
  have fz : b1.tmps.getD 32 undef = .bool false := by
    have h := hf7 23 _ 32 rfl rfl
    by_cases hp : parE 9 l = 0
    · rw [if_pos hp] at h; exact h
    · rw [if_neg hp] at h; exact h
  have e := frame_puts hd7 hz7 he7
  obtain ⟨x, hx⟩ : ∃ x : Nat → Value, ∀ d, b1.tmps.getD d undef = x d := ⟨_, fun _ => rfl⟩
  rw [show dstsOf _ = [9, 10, 11, 12, 13, 14, 15, 16, 17, 18, 19, 20, 21, 22, 23, 24, 25, 26, 27, 28, 29, 30, 31, 32] from rfl] at e
  simp only [List.foldl_cons, List.foldl_nil, hx, Act.put, List.setIfInBounds_toArray, List.set_cons_succ, List.set_cons_zero] at e fz
  rw [fz] at e
  clear hf7 he7 hz7 hd7 hx fz
  subst e
  clear hR0 hR1 hF0 hX1 hb hbS
  have hX3 := hX2.trans hX7
  clear hX2 hX7
  go_wp2_with (first | (go_at_call 8; refine (newReader_c [] _ l hl _ (Sl.ext hv.out hX3) (by simp)).mono ?_; rintro ee w1 ⟨b, rfl, hb, hR1, hX1⟩) | (go_at_call 13; refine (rint_c _ b _ _ _ hR1).mono ?_; rintro ee w4 ⟨rfl, hR0, hF0⟩; rw [n10.out]; replace hR0 := hide hR0))
  have hz3 := hX3.size
  have hbS : ∀ x, x ∈ [b] → w.heap.size ≤ x := by intro x hx; simp at hx; subst hx; omega
  have hX4 := ext_fr (hX3.trans hX1) hF0 hbS
  refine wp_region_list (if parE 10 l = 0 then L10y l A cap b else L10n l b) (by kernel_rfl) (by kernel_rfl) (by kernel_rfl) ?_ ?_
  · by_cases hp : parE 10 l = 0
    · rw [if_pos hp]
      have hle := parE_ne hp
      have hsh := par_short hp
      have hcat := congrArg List.length hsh.2
      have htk : (l.take (lead l + 1)).length = lead l + 1 := by rw [List.length_take]; omega
      rw [List.length_append, htk] at hcat
      have hcut : ((lead l + 1 : Nat) : Int) ≤ (cap : Int) := by omega
      have hcv : ∀ w', Ext w4 w' → (convert 22 9 (.slice (cutA A 0 cap 1) (lead l + 1) cap)).run Try.prog w' = .ok (.string ⟨(l.take (lead l + 1)).toArray⟩) w' := by
        intro w' hx
        have h := (Sl.ext (Sl.ext hv.out hX4) hx).cut 0 (lead l + 1) cap (by omega) (by omega) (by omega) (Nat.le_refl _)
        rw [sliced_eq, Nat.zero_mul, List.drop_zero, Nat.mul_one, bs_take, Nat.sub_zero, Nat.sub_zero] at h
        have h' : By w' [] (.slice (cutA A 0 cap 1) (lead l + 1) cap) (l.take (lead l + 1)) := by unfold By; rw [htk]; exact h
        exact run_str Try.underlying22 Try.underlying5 Try.underlying9 h'
      have hR : Rdr w4 [b] b (parR 10 l, 0) := by have := hR0.out; unfold numSt at this; rw [if_pos rfl, hp] at this; exact this
      have heq : intB (unz (parV 10 l)) = l.take (lead l + 1) := by unfold intB; rw [zz_unz]; exact hsh.1
      refine ⟨?_, ?_, ?_, ?_, ?_, ?_, ?_, ?_, ?_, ?_, ?_, ?_, ?_, ?_, ?_, ?_, ?_, ?_, ?_, ?_, ?_, ?_, ?_, ?_, trivial⟩
      · intro b1 w' h
        have f3 : b1.tmps.getD 3 undef = .pointer (some ⟨b, 0, none⟩) := h.else_ 3 (of_decide_eq_true (by kernel_rfl))
        exact (good_move (wanted_none rfl) rfl f3)
      · intro b1 w' h
        have f37 : b1.tmps.getD 37 undef = .pointer (some ⟨b, 0, none⟩) := h.dep 0 _ 37 (by kernel_rfl) rfl rfl
        refine good_call (wanted_none rfl) rfl (enters Try.func10 (by kernel_rfl) rfl) ?_
        rw [show (#[.tmp 37] : Array Operand).map b1.eval = #[.pointer (some ⟨b, 0, none⟩)] by simp [Act.eval, f37]]
        exact (err_c _ b _ _ _ (rdr_ext hR h.ext)).mono fun e w1 ⟨he, hx⟩ => ⟨_, he, rfl, hx ▸ Ext.refl _⟩
      · intro b1 w' h
        have f38 : b1.tmps.getD 38 undef = .int .i64 (0) := h.dep 1 _ 38 (by kernel_rfl) rfl rfl
        exact (good_bin (wanted_none rfl) rfl f38 rfl (by exact guard_int _) (by exact run_eql_int Try.underlying26 _ _ (by rfl) _) rfl)
      · intro b1 w' h
        have f39 : b1.tmps.getD 39 undef = .bool true := h.dep 2 _ 39 (by kernel_rfl) rfl rfl
        exact (good_move (wanted_none rfl) rfl f39)
      · intro b1 w' h
        have f40 : b1.tmps.getD 40 undef = .bool true := h.dep 3 _ 40 (by kernel_rfl) rfl rfl
        have f3 : b1.tmps.getD 3 undef = .pointer (some ⟨b, 0, none⟩) := h.else_ 3 (of_decide_eq_true (by kernel_rfl))
        exact (good_move (wanted_yes rfl rfl f40) rfl f3)
      · intro b1 w' h
        have f40 : b1.tmps.getD 40 undef = .bool true := h.dep 3 _ 40 (by kernel_rfl) rfl rfl
        have f41 : b1.tmps.getD 41 undef = .pointer (some ⟨b, 0, none⟩) := h.dep 4 _ 41 (by kernel_rfl) rfl rfl
        refine good_call (wanted_yes rfl rfl f40) rfl (enters Try.func11 (by kernel_rfl) rfl) ?_
        rw [show (#[.tmp 41] : Array Operand).map b1.eval = #[.pointer (some ⟨b, 0, none⟩)] by simp [Act.eval, f41]]
        exact (left_c _ b _ _ _ (rdr_ext hR h.ext)).mono fun e w1 ⟨he, hx⟩ => ⟨_, he, rfl, hx ▸ Ext.refl _⟩
      · intro b1 w' h
        have f40 : b1.tmps.getD 40 undef = .bool true := h.dep 3 _ 40 (by kernel_rfl) rfl rfl
        have f0 : b1.tmps.getD 0 undef = .slice A l.length cap := h.else_ 0 (of_decide_eq_true (by kernel_rfl))
        exact (good_move (wanted_yes rfl rfl f40) rfl f0)
      · intro b1 w' h
        have f40 : b1.tmps.getD 40 undef = .bool true := h.dep 3 _ 40 (by kernel_rfl) rfl rfl
        have f43 : b1.tmps.getD 43 undef = .slice A l.length cap := h.dep 6 _ 43 (by kernel_rfl) rfl rfl
        exact (good_len (wanted_yes rfl rfl f40) rfl Try.underlying22 f43 rfl)
      · intro b1 w' h
        have f40 : b1.tmps.getD 40 undef = .bool true := h.dep 3 _ 40 (by kernel_rfl) rfl rfl
        have f42 : b1.tmps.getD 42 undef = .int .i64 (parR 10 l).length := h.dep 5 _ 42 (by kernel_rfl) rfl rfl
        have f44 : b1.tmps.getD 44 undef = .int .i64 l.length := h.dep 7 _ 44 (by kernel_rfl) rfl rfl
        exact (good_bin (wanted_yes rfl rfl f40) rfl f42 f44 (by exact guard_int _) (by exact run_gtr_int Try.underlying3 _ _ (by simp; omega) _) rfl)
      · intro b1 w' h
        have f40 : b1.tmps.getD 40 undef = .bool true := h.dep 3 _ 40 (by kernel_rfl) rfl rfl
        have f45 : b1.tmps.getD 45 undef = .bool false := h.dep 8 _ 45 (by kernel_rfl) rfl rfl
        exact (good_move (wanted_yes rfl rfl f40) rfl f45)
      · intro b1 w' h
        have f46 : b1.tmps.getD 46 undef = .bool false := h.dep 9 _ 46 (by kernel_rfl) rfl rfl
        have f0 : b1.tmps.getD 0 undef = .slice A l.length cap := h.else_ 0 (of_decide_eq_true (by kernel_rfl))
        exact (good_move (wanted_yes rfl rfl f46) rfl f0)
      · intro b1 w' h
        have f46 : b1.tmps.getD 46 undef = .bool false := h.dep 9 _ 46 (by kernel_rfl) rfl rfl
        have f0 : b1.tmps.getD 0 undef = .slice A l.length cap := h.else_ 0 (of_decide_eq_true (by kernel_rfl))
        exact (good_move (wanted_yes rfl rfl f46) rfl f0)
      · intro b1 w' h
        have f46 : b1.tmps.getD 46 undef = .bool false := h.dep 9 _ 46 (by kernel_rfl) rfl rfl
        have f48 : b1.tmps.getD 48 undef = .slice A l.length cap := h.dep 11 _ 48 (by kernel_rfl) rfl rfl
        exact (good_len (wanted_yes rfl rfl f46) rfl Try.underlying22 f48 rfl)
      · intro b1 w' h
        have f46 : b1.tmps.getD 46 undef = .bool false := h.dep 9 _ 46 (by kernel_rfl) rfl rfl
        have f3 : b1.tmps.getD 3 undef = .pointer (some ⟨b, 0, none⟩) := h.else_ 3 (of_decide_eq_true (by kernel_rfl))
        exact (good_move (wanted_yes rfl rfl f46) rfl f3)
      · intro b1 w' h
        have f46 : b1.tmps.getD 46 undef = .bool false := h.dep 9 _ 46 (by kernel_rfl) rfl rfl
        have f50 : b1.tmps.getD 50 undef = .pointer (some ⟨b, 0, none⟩) := h.dep 13 _ 50 (by kernel_rfl) rfl rfl
        refine good_call (wanted_yes rfl rfl f46) rfl (enters Try.func11 (by kernel_rfl) rfl) ?_
        rw [show (#[.tmp 50] : Array Operand).map b1.eval = #[.pointer (some ⟨b, 0, none⟩)] by simp [Act.eval, f50]]
        exact (left_c _ b _ _ _ (rdr_ext hR h.ext)).mono fun e w1 ⟨he, hx⟩ => ⟨_, he, rfl, hx ▸ Ext.refl _⟩
      · intro b1 w' h
        have f46 : b1.tmps.getD 46 undef = .bool false := h.dep 9 _ 46 (by kernel_rfl) rfl rfl
        have f49 : b1.tmps.getD 49 undef = .int .i64 l.length := h.dep 12 _ 49 (by kernel_rfl) rfl rfl
        have f51 : b1.tmps.getD 51 undef = .int .i64 (parR 10 l).length := h.dep 14 _ 51 (by kernel_rfl) rfl rfl
        exact (good_bin (wanted_yes rfl rfl f46) rfl f49 f51 (by exact guard_int _) (by exact run_sub_i64 Try.underlying3 _ _ _ (by omega) (by omega) _) rfl)
      · intro b1 w' h
        have f46 : b1.tmps.getD 46 undef = .bool false := h.dep 9 _ 46 (by kernel_rfl) rfl rfl
        have f47 : b1.tmps.getD 47 undef = .slice A l.length cap := h.dep 10 _ 47 (by kernel_rfl) rfl rfl
        have f52 : b1.tmps.getD 52 undef = .int .i64 ((lead l + 1 : Nat) : Int) := h.dep 15 _ 52 (by kernel_rfl) rfl rfl
        exact (good_slice (wanted_yes rfl rfl f46) rfl f47 rfl (show Option.map b1.eval (some (.tmp 52)) = some (.int .i64 ((lead l + 1 : Nat) : Int)) by simp only [Option.map_some, Act.eval, f52]) rfl (hcut1.out _ hcut _) rfl)
      · intro b1 w' h
        have f46 : b1.tmps.getD 46 undef = .bool false := h.dep 9 _ 46 (by kernel_rfl) rfl rfl
        have f53 : b1.tmps.getD 53 undef = .slice (cutA A 0 cap 1) (lead l + 1) cap := h.dep 16 _ 53 (by kernel_rfl) rfl rfl
        exact (good_convert (wanted_yes rfl rfl f46) rfl (by rw [show b1.eval (.tmp 53) = .slice (cutA A 0 cap 1) (lead l + 1) cap from f53]; exact hcv _ h.ext) rfl)
      · intro b1 w' h
        have f46 : b1.tmps.getD 46 undef = .bool false := h.dep 9 _ 46 (by kernel_rfl) rfl rfl
        have f4 : b1.tmps.getD 4 undef = .int .i64 (unz (parV 10 l)) := h.else_ 4 (of_decide_eq_true (by kernel_rfl))
        exact (good_move (wanted_yes rfl rfl f46) rfl f4)
      · intro b1 w' h
        have f46 : b1.tmps.getD 46 undef = .bool false := h.dep 9 _ 46 (by kernel_rfl) rfl rfl
        have f55 : b1.tmps.getD 55 undef = .int .i64 (unz (parV 10 l)) := h.dep 18 _ 55 (by kernel_rfl) rfl rfl
        refine good_call (wanted_yes rfl rfl f46) rfl (enters Try.func14 (by kernel_rfl) rfl) ?_
        rw [show (#[.tmp 55] : Array Operand).map b1.eval = #[.int .i64 (unz (parV 10 l))] by simp [Act.eval, f55]]
        exact (int_c _ hv10.out _).mono fun e w1 ⟨v, he, ho, hx⟩ => ⟨v, he, Sl.own ho (by simp), hx⟩
      · intro b1 w' h
        have f46 : b1.tmps.getD 46 undef = .bool false := h.dep 9 _ 46 (by kernel_rfl) rfl rfl
        have f56 := h.dep 19 _ 56 (by kernel_rfl) rfl rfl
        exact (good_convert (wanted_yes rfl rfl f46) rfl (run_str Try.underlying22 Try.underlying5 Try.underlying9 (show By w' [] (b1.tmps.getD 56 undef) (l.take (lead l + 1)) from by rw [← heq]; exact f56)) rfl)
      · intro b1 w' h
        have f46 : b1.tmps.getD 46 undef = .bool false := h.dep 9 _ 46 (by kernel_rfl) rfl rfl
        have f54 : b1.tmps.getD 54 undef = .string ⟨(l.take (lead l + 1)).toArray⟩ := h.dep 17 _ 54 (by kernel_rfl) rfl rfl
        have f57 : b1.tmps.getD 57 undef = .string ⟨(l.take (lead l + 1)).toArray⟩ := h.dep 20 _ 57 (by kernel_rfl) rfl rfl
        exact (good_bin (wanted_yes rfl rfl f46) rfl f54 f57 (by exact guard_str _) (by first | exact run_neq_str Try.underlying9 _ _) rfl)
      · intro b1 w' h
        have f40 : b1.tmps.getD 40 undef = .bool true := h.dep 3 _ 40 (by kernel_rfl) rfl rfl
        have f46 : b1.tmps.getD 46 undef = .bool false := h.dep 9 _ 46 (by kernel_rfl) rfl rfl
        have f58 : b1.tmps.getD 58 undef = .bool false := h.dep 21 _ 58 (by kernel_rfl) rfl rfl
        exact (good_pickF (wanted_yes rfl rfl f40) rfl f46 f58)
      · intro b1 w' h
        have f40 : b1.tmps.getD 40 undef = .bool true := h.dep 3 _ 40 (by kernel_rfl) rfl rfl
        have f59 : b1.tmps.getD 59 undef = .bool false := h.dep 22 _ 59 (by kernel_rfl) rfl rfl
        exact (good_pick (wanted_none rfl) rfl f40 f59)
    · rw [if_neg hp]
      have hR : Rdr w4 [b] b ([], parE 10 l) := by have := hR0.out; unfold numSt at this; rw [if_pos rfl, (par_no hp).2] at this; exact this
      refine ⟨?_, ?_, ?_, ?_, ?_, ?_, ?_, ?_, ?_, ?_, ?_, ?_, ?_, ?_, ?_, ?_, ?_, ?_, ?_, ?_, ?_, ?_, ?_, ?_, trivial⟩
      · intro b1 w' h
        have f3 : b1.tmps.getD 3 undef = .pointer (some ⟨b, 0, none⟩) := h.else_ 3 (of_decide_eq_true (by kernel_rfl))
        exact (good_move (wanted_none rfl) rfl f3)
      · intro b1 w' h
        have f37 : b1.tmps.getD 37 undef = .pointer (some ⟨b, 0, none⟩) := h.dep 0 _ 37 (by kernel_rfl) rfl rfl
        refine good_call (wanted_none rfl) rfl (enters Try.func10 (by kernel_rfl) rfl) ?_
        rw [show (#[.tmp 37] : Array Operand).map b1.eval = #[.pointer (some ⟨b, 0, none⟩)] by simp [Act.eval, f37]]
        exact (err_c _ b _ _ _ (rdr_ext hR h.ext)).mono fun e w1 ⟨he, hx⟩ => ⟨_, he, rfl, hx ▸ Ext.refl _⟩
      · intro b1 w' h
        have f38 : b1.tmps.getD 38 undef = .int .i64 (parE 10 l) := h.dep 1 _ 38 (by kernel_rfl) rfl rfl
        exact (good_bin (wanted_none rfl) rfl f38 rfl (by exact guard_int _) (by exact run_eql_int Try.underlying26 _ _ (by simpa using hp) _) rfl)
      · intro b1 w' h
        have f39 : b1.tmps.getD 39 undef = .bool false := h.dep 2 _ 39 (by kernel_rfl) rfl rfl
        exact (good_move (wanted_none rfl) rfl f39)
      · intro b1 w' h
        have f40 : b1.tmps.getD 40 undef = .bool false := h.dep 3 _ 40 (by kernel_rfl) rfl rfl
        exact (good_skip (wanted_no rfl rfl f40) rfl)
      · intro b1 w' h
        have f40 : b1.tmps.getD 40 undef = .bool false := h.dep 3 _ 40 (by kernel_rfl) rfl rfl
        exact (good_skip (wanted_no rfl rfl f40) rfl)
      · intro b1 w' h
        have f40 : b1.tmps.getD 40 undef = .bool false := h.dep 3 _ 40 (by kernel_rfl) rfl rfl
        exact (good_skip (wanted_no rfl rfl f40) rfl)
      · intro b1 w' h
        have f40 : b1.tmps.getD 40 undef = .bool false := h.dep 3 _ 40 (by kernel_rfl) rfl rfl
        exact (good_skip (wanted_no rfl rfl f40) rfl)
      · intro b1 w' h
        have f40 : b1.tmps.getD 40 undef = .bool false := h.dep 3 _ 40 (by kernel_rfl) rfl rfl
        exact (good_skip (wanted_no rfl rfl f40) rfl)
      · intro b1 w' h
        have f40 : b1.tmps.getD 40 undef = .bool false := h.dep 3 _ 40 (by kernel_rfl) rfl rfl
        exact (good_skip (wanted_no rfl rfl f40) rfl)
      · intro b1 w' h
        have f46 : b1.tmps.getD 46 undef = undef := h.dep 9 _ 46 (by kernel_rfl) rfl rfl
        exact (good_skip (wanted_undef rfl rfl f46) rfl)
      · intro b1 w' h
        have f46 : b1.tmps.getD 46 undef = undef := h.dep 9 _ 46 (by kernel_rfl) rfl rfl
        exact (good_skip (wanted_undef rfl rfl f46) rfl)
      · intro b1 w' h
        have f46 : b1.tmps.getD 46 undef = undef := h.dep 9 _ 46 (by kernel_rfl) rfl rfl
        exact (good_skip (wanted_undef rfl rfl f46) rfl)
      · intro b1 w' h
        have f46 : b1.tmps.getD 46 undef = undef := h.dep 9 _ 46 (by kernel_rfl) rfl rfl
        exact (good_skip (wanted_undef rfl rfl f46) rfl)
      · intro b1 w' h
        have f46 : b1.tmps.getD 46 undef = undef := h.dep 9 _ 46 (by kernel_rfl) rfl rfl
        exact (good_skip (wanted_undef rfl rfl f46) rfl)
      · intro b1 w' h
        have f46 : b1.tmps.getD 46 undef = undef := h.dep 9 _ 46 (by kernel_rfl) rfl rfl
        exact (good_skip (wanted_undef rfl rfl f46) rfl)
      · intro b1 w' h
        have f46 : b1.tmps.getD 46 undef = undef := h.dep 9 _ 46 (by kernel_rfl) rfl rfl
        exact (good_skip (wanted_undef rfl rfl f46) rfl)
      · intro b1 w' h
        have f46 : b1.tmps.getD 46 undef = undef := h.dep 9 _ 46 (by kernel_rfl) rfl rfl
        exact (good_skip (wanted_undef rfl rfl f46) rfl)
      · intro b1 w' h
        have f46 : b1.tmps.getD 46 undef = undef := h.dep 9 _ 46 (by kernel_rfl) rfl rfl
        exact (good_skip (wanted_undef rfl rfl f46) rfl)
      · intro b1 w' h
        have f46 : b1.tmps.getD 46 undef = undef := h.dep 9 _ 46 (by kernel_rfl) rfl rfl
        exact (good_skip (wanted_undef rfl rfl f46) rfl)
      · intro b1 w' h
        have f46 : b1.tmps.getD 46 undef = undef := h.dep 9 _ 46 (by kernel_rfl) rfl rfl
        exact (good_skip (wanted_undef rfl rfl f46) rfl)
      · intro b1 w' h
        have f46 : b1.tmps.getD 46 undef = undef := h.dep 9 _ 46 (by kernel_rfl) rfl rfl
        exact (good_skip (wanted_undef rfl rfl f46) rfl)
      · intro b1 w' h
        have f40 : b1.tmps.getD 40 undef = .bool false := h.dep 3 _ 40 (by kernel_rfl) rfl rfl
        exact (good_skip (wanted_no rfl rfl f40) rfl)
      · intro b1 w' h
        have f40 : b1.tmps.getD 40 undef = .bool false := h.dep 3 _ 40 (by kernel_rfl) rfl rfl
        exact (good_pickF (wanted_none rfl) rfl f40 rfl)
  intro b1 w7 hX7 hd7 hz7 he7 hf7
  have fz : b1.tmps.getD 60 undef = .bool false := by
    have h := hf7 23 _ 60 rfl rfl
    by_cases hp : parE 10 l = 0
    · rw [if_pos hp] at h; exact h
    · rw [if_neg hp] at h; exact h
  have e := frame_puts hd7 hz7 he7
  obtain ⟨x, hx⟩ : ∃ x : Nat → Value, ∀ d, b1.tmps.getD d undef = x d := ⟨_, fun _ => rfl⟩
  rw [show dstsOf _ = [37, 38, 39, 40, 41, 42, 43, 44, 45, 46, 47, 48, 49, 50, 51, 52, 53, 54, 55, 56, 57, 58, 59, 60] from rfl] at e
  simp only [List.foldl_cons, List.foldl_nil, hx, Act.put, List.setIfInBounds_toArray, List.set_cons_succ, List.set_cons_zero] at e fz
  rw [fz] at e
  clear hf7 he7 hz7 hd7 hx fz
  subst e
  go_wp2_with (go_at_call 15; refine (live_c _).mono ?_; rintro ee wz ⟨rfl, hXz⟩)
  go_returns
  exact ⟨rfl, (hX4.trans hX7).trans hXz⟩
theorem own : ownKnob Try.prog.godebug = none := by kernel_rfl
theorem laidOut : laidOutB Try.prog = true := by kernel_rfl
set_option maxRecDepth 100000 in
theorem lifted (os : Os) (started : os.Started) (H : Type) (enc : TypeId × Value → H) :
    ReturnsInHanded {} Try.checked os 3 .any (Rows.binShortSpec.pre6 enc Try.prog Try.f3 Rows.binShortRow.domain false) (Rows.binShortSpec.post enc Try.prog Try.f3 false true false false) := by
  refine returnsInHanded_of_change_sized (C := Try.checked) own started (by kernel_rfl) Try.func3
    (ChangeSpec.witness6 (enc := enc) (C := Try.checked) false ⟨#[], #[.slice none 0 0], []⟩ 8 (by kernel_rfl) (by kernel_rfl) (by kernel_rfl) (by kernel_rfl)) ?_
  intro W base args ds gs before hval0 hW hcnd hsz0 _
  have hsz : (DataW.weightsEach Try.prog (Try.f3.params.toList ++ Rows.binShortSpec.plain.varTypes Try.prog) (ds ++ gs)).all (· ≤ reachBytes) = true := hsz0
  clear hsz0
  have hval : ∀ (j : Nat) t v, Try.f3.params[j]? = some t → args[j]? = some v → Value.okWide Try.prog W .any base t v := hval0
  have hW' := hW
  obtain ⟨p, q, hA0, hV, rfl, hfz, hnd⟩ := hW
  have hA : DataW.TrodAll enc Try.prog W 0 (fun _ => true) true Try.f3.params.toList args.toList ds p := hA0
  rw [Try.params3] at hA hval hsz
  obtain ⟨v0, vs0, d0, ds0, p0, q0, hargs, rfl, rfl, h0, r0⟩ := trodAll_cons hA
  obtain ⟨rfl, rfl, rfl⟩ := trodAll_nil r0
  obtain rfl : args = #[v0] := by cases args; simp_all
  obtain ⟨rfl, rfl⟩ := trodVars_none hV
  have k0 := h0
  have lt0 : ∀ x ∈ p0, x.block < W.heap.size := by obtain ⟨m, hm⟩ := k0; exact DataW.trod_lt m _ _ _ hm
  obtain ⟨A0, n0, c0, rfl⟩ := okWide_slice Try.underlying22 (hval 0 22 v0 rfl rfl)
  have ⟨m0, hm0⟩ := h0
  obtain ⟨l, ll, hl⟩ := open_bytes Try.underlying22 Try.underlying5 (by kernel_rfl) hm0
  have zl : l.length ≤ 140737488351232 := by rw [ll]; exact sized_len hsz (j := 0) (t := 22) (e := 5) rfl rfl Try.underlying22 (of_decide_eq_true (by kernel_rfl))
  clear hA0 hval0
  refine (walk l _ zl W hl).mono fun e W' ⟨he, bel⟩ => ?_
  subst he
  exact ⟨_, rfl, _, _, _, [], _, [], hW', trodAll_mk1 (shut_bool Try.underlying4 _), (trodAll_cons_mk (Below.trod laidOut (by kernel_rfl) (of_decide_eq_true (by kernel_rfl)) k0 bel lt0) trodAll_mk0), rfl, bel.frame _, fun h => by cases h⟩

theorem over : Rows.binShortRow.holds Try.pinned (OpenSpec.ofChange Rows.binShortSpec) :=
  OpenClaim.holds_of_wide 3 Try.f3 rfl rfl rfl rfl rfl rfl rfl ⟨rfl, rfl, rfl, rfl, rfl⟩ rfl rfl rfl rfl rfl (by kernel_rfl) Try.func3 (by kernel_rfl)
    (of_decide_eq_true (by kernel_rfl)) (by unfold Func.isWrapper; first | (rw [if_pos (by decide +kernel)]; kernel_rfl) | (rw [if_neg (by decide +kernel)]; exact ⟨rfl, rfl⟩))
    (fun os started H enc _ => lifted os started H enc)

theorem binShort_holds : Rows.BinShortSaid := over
end Go.Proofs.Ytjkkolhboohmgab.binShort
