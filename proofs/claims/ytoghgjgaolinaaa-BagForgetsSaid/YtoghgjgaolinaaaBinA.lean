/-
  A helper of ours: no claim of its own. Layer 3 (bin): the bytes of numbers and texts.
-/
import Derived.Laws.BitsAllLaws
import Derived.Laws.Bits64b
import Derived.Laws.BitsLemmas
import Derived.Test.YtoghgjgaolinaaaRows
import Derived.Test.YtoghgjgaolinaaaMem
import Derived.Handy
import Derived.WalkSmall
namespace Go.Proofs.Ytoghgjgaolinaaa
theorem or128_all : ∀ n : Fin 256, bits BinOp.or IntKind.u8 (n.val : Int) 128 = ((n.val % 128 + 128 : Nat) : Int) := by decide +kernel
theorem or128 (x : Int) (h0 : 0 ≤ x) (h1 : x < 256) : bits BinOp.or IntKind.u8 x 128 = x % 128 + 128 := by
  have := or128_all ⟨x.toNat, by omega⟩
  rw [show ((⟨x.toNat, by omega⟩ : Fin 256).val : Int) = x by simp; omega] at this
  rw [this]; simp; omega
theorem ofInt_toNat (x : Int) (h0 : 0 ≤ x) (h1 : x ≤ 18446744073709551615) : (BitVec.ofInt 64 x).toNat = x.toNat := by
  rw [BitVec.toNat_ofInt]; omega
theorem xor_u64_zero (x : Int) (h0 : 0 ≤ x) (h1 : x ≤ 18446744073709551615) : bits .xor .u64 x 0 = x := by
  show IntKind.u64.wrap ((BitVec.ofInt 64 x ^^^ BitVec.ofInt 64 0).toNat : Int) = _
  rw [show BitVec.ofInt 64 0 = 0#64 by decide, BitVec.xor_zero, ofInt_toNat x h0 h1, IntKind.wrap_u64]
  omega
theorem xor_u64_ones (x : Int) (h0 : 0 ≤ x) (h1 : x ≤ 18446744073709551615) : bits .xor .u64 x 18446744073709551615 = 18446744073709551615 - x := by
  show IntKind.u64.wrap ((BitVec.ofInt 64 x ^^^ BitVec.ofInt 64 18446744073709551615).toNat : Int) = _
  rw [show BitVec.ofInt 64 18446744073709551615 = BitVec.allOnes 64 by decide, BitVec.xor_allOnes, BitVec.toNat_not, ofInt_toNat x h0 h1, IntKind.wrap_u64]
  omega
theorem wrap_ofInt (x : Int) (h : -9223372036854775808 ≤ x ∧ x ≤ 9223372036854775807) : IntKind.i64.wrap ((BitVec.ofInt 64 x).toNat : Int) = x := by
  rw [BitVec.toNat_ofInt, IntKind.wrap_i64]; omega
theorem xor_i64_zero (x : Int) (h : -9223372036854775808 ≤ x ∧ x ≤ 9223372036854775807) : bits .xor .i64 x 0 = x := by
  show IntKind.i64.wrap ((BitVec.ofInt 64 x ^^^ BitVec.ofInt 64 0).toNat : Int) = _
  rw [show BitVec.ofInt 64 0 = 0#64 by decide, BitVec.xor_zero]
  exact wrap_ofInt x h
theorem xor_i64_ones (x : Int) (h : -9223372036854775808 ≤ x ∧ x ≤ 9223372036854775807) : bits .xor .i64 x (-1) = -1 - x := by
  show IntKind.i64.wrap ((BitVec.ofInt 64 x ^^^ BitVec.ofInt 64 (-1)).toNat : Int) = _
  rw [show BitVec.ofInt 64 (-1) = BitVec.allOnes 64 by decide, BitVec.xor_allOnes, BitVec.toNat_not, BitVec.toNat_ofInt, IntKind.wrap_i64]
  omega
theorem and_u64_one (x : Int) (h0 : 0 ≤ x) (h1 : x ≤ 18446744073709551615) : bits .and .u64 x 1 = x % 2 := by
  obtain ⟨n, rfl⟩ := Int.eq_ofNat_of_zero_le h0
  have := bits_and_u64_nat n 1 (by omega) (by omega)
  rw [Nat.and_one_is_mod] at this
  simpa using this
theorem or_u64_add (x y : Int) (k : Nat) (hk : k < 64) (hx0 : 0 ≤ x) (hx : x < (2 : Int) ^ k) (hy0 : 0 ≤ y) (hy : y % (2 : Int) ^ k = 0) (hy1 : y ≤ 18446744073709551615) : bits .or .u64 x y = x + y := by
  obtain ⟨a, rfl⟩ := Int.eq_ofNat_of_zero_le hx0
  obtain ⟨b, rfl⟩ := Int.eq_ofNat_of_zero_le hy0
  have ha : a < 2 ^ k := by exact_mod_cast hx
  have ha' : a < 2 ^ 64 := Nat.lt_of_lt_of_le ha (Nat.pow_le_pow_right (by omega) (by omega))
  have hb : b % 2 ^ k = 0 := by exact_mod_cast hy
  have hq : b = 2 ^ k * (b / 2 ^ k) := by have := Nat.div_add_mod b (2 ^ k); omega
  rw [bits_or_u64_nat a b (by omega) (by omega), hq, Nat.or_comm, ← Nat.two_pow_add_eq_or_of_lt ha (b / 2 ^ k)]
  simp; omega
end Go.Proofs.Ytoghgjgaolinaaa
set_option linter.unusedVariables false
set_option linter.unusedSimpArgs false
namespace Go.Proofs.Ytoghgjgaolinaaa
open Go.RowKit
attribute [local go_sem] GW.cell GW.frozen In.eq_true In.le_true In.ne In.ne' In.ne_add In.ne_add' In.lt_add Upto.le_true Upto.le_add Upto.lt_add
theorem tBytes : ElemT Try.prog 159 5 (.int .u8 0) 1 1 := ElemT.mk' Try.underlying159 (by kernel_rfl) rfl (by omega)

/-- A number's groups, the lowest first. -/
def grb (n : Nat) : List UInt8 := if h : n < 128 then [UInt8.ofNat n] else UInt8.ofNat (n % 128 + 128) :: grb (n / 128)
termination_by n
decreasing_by omega
theorem grb_small {n : Nat} (h : n < 128) : grb n = [UInt8.ofNat n] := by rw [grb, dif_pos h]
theorem grb_great {n : Nat} (h : ¬ n < 128) : grb n = UInt8.ofNat (n % 128 + 128) :: grb (n / 128) := by rw [grb, dif_neg h]
theorem grb_le : ∀ (k n : Nat), n < 128 ^ (k + 1) → (grb n).length ≤ k + 1
  | 0, n, h => by rw [grb_small (by simpa using h)]; simp
  | k + 1, n, h => by
    by_cases hn : n < 128
    · rw [grb_small hn]; simp
    · rw [grb_great hn]
      have := grb_le k (n / 128) (by rw [Nat.div_lt_iff_lt_mul (by omega)]; rw [Nat.pow_succ] at h; exact h)
      simp; omega
theorem grb_ten {n : Nat} (h : n < 18446744073709551616) : (grb n).length ≤ 10 := grb_le 9 n (Nat.lt_of_lt_of_le h (by decide))

theorem u8_of (k : Nat) (h : k < 256) : ((UInt8.ofNat k).toNat : Int) = k := by simp; omega
theorem bs_u8 (k : Nat) (x : Int) (h : k < 256) (e : x = k) : [Value.int .u8 x] = bs [UInt8.ofNat k] := by simp only [bs, List.map_cons, List.map_nil, u8_of k h, e]
set_option maxHeartbeats 400000 in
theorem varint_c (n : Int) (h0 : 0 ≤ n) (hn : n ≤ 18446744073709551615) (w : World) : Calls Try.prog 194 #[.int .u64 n] w fun e w' => ∃ v, e = .returned v ∧ OwnB w' w.heap.size v (grb n.toNat) ∧ Ext w w' := by
  have hten := grb_ten (n := n.toNat) (by omega)
  go_enter Try.func194, Try.ntmps194
  go_wp2_with fail
  go_loopw [0, 3] (fun x v wr => ∃ (m : Int) (l : List UInt8), x = .int .u64 m ∧ 0 ≤ m ∧ m ≤ 18446744073709551615 ∧ OwnB wr w.heap.size v l ∧ Hid (l ++ grb m.toNat = grb n.toNat) ∧ l.length ≤ 10 ∧ Ext w wr)
    (fun x _ _ => (intOf x).toNat)
  case atStart => exact ⟨n, [], rfl, h0, hn, World.ownsRow_nil _ _ _ _, rfl, by simp, Ext.refl _⟩
  case round =>
    obtain ⟨m, l, rfl, hm0, hm1, hown, hl, hlen, hext⟩ := hrel
    by_cases h : m < 128
    · have hs := Hid.out hl
      rw [grb_small (by omega)] at hs
      have hs := hide hs
      have hsz := hext.size
      go_wp2_with (at_builtin; refine wpl_app tBytes rfl (.tmp 14) (.tmp 17) rfl rfl (hown.alloc _) rfl (src_one Try.underlying159 _ _ _ rfl) (by unfold maxLen; omega) (by omega) (by simp; omega) ?_; intro v' w1 hown1 hgr1 _)
      go_returns
      refine ⟨_, rfl, ?_, ?_⟩
      · rw [bs_u8 m.toNat _ (by omega) (by omega), ← bs_append, hs.out] at hown1
        have := congrArg List.length hs.out
        simp at this
        unfold OwnB
        rw [← this]
        exact hown1
      · exact ext_grown (hext.alloc _) hgr1 (fun k hk => (hown.lt k hk).1)
    · have hs := Hid.out hl
      rw [grb_great (by omega)] at hs
      have hs := hide hs
      have hsz := hext.size
      have hb := or128 (m % 256) (by omega) (by omega)
      go_wp2_with (at_builtin; refine wpl_app tBytes rfl (.tmp 6) (.tmp 10) rfl rfl (hown.alloc _) rfl (src_one Try.underlying159 _ _ _ rfl) (by unfold maxLen; omega) (by omega) (by simp; omega) ?_; intro v' w1 hown1 hgr1 _)
      go_roundw
      case rel =>
        rw [bs_u8 (m.toNat % 128 + 128) _ (by omega) (by omega), ← bs_append] at hown1
        have hlen' := congrArg List.length hs.out
        simp at hlen'
        refine ⟨m / 128, l ++ [UInt8.ofNat (m.toNat % 128 + 128)], rfl, by omega, by omega, ?_, ?_, by simp; omega, ext_grown (hext.alloc _) hgr1 (fun k hk => (hown.lt k hk).1)⟩
        · unfold OwnB; rw [List.length_append]; exact hown1
        · refine hide ?_
          rw [List.append_assoc, List.singleton_append, show (m / 128).toNat = m.toNat / 128 by omega]
          exact hs.out
      case measure => simp [intOf]; omega

/-- The place of a number among those of both signs. -/
def zz (n : Int) : Int := if n < 0 then 2 * (-1 - n) + 1 else 2 * n
theorem zz_in {n : Int} (h : -9223372036854775808 ≤ n ∧ n ≤ 9223372036854775807) : 0 ≤ zz n ∧ zz n ≤ 18446744073709551615 := by unfold zz; split <;> omega
theorem zigzag_c (n : Int) (h : -9223372036854775808 ≤ n ∧ n ≤ 9223372036854775807) (w : World) : Calls Try.prog 195 #[.int .i64 n] w fun e w' => e = .returned (.int .u64 (zz n)) ∧ w = w' := by
  by_cases h0 : n < 0
  · go_enter Try.func195, Try.ntmps195
    go_wp2_with fail
    go_ret
    refine ⟨?_, rfl⟩
    rw [IntKind.wrap_u64, IntKind.wrap_u64, IntKind.wrap_u64, show n / 9223372036854775808 % 18446744073709551616 = 18446744073709551615 by omega, xor_u64_ones _ (by omega) (by omega)]
    simp [zz, h0]; omega
  · go_enter Try.func195, Try.ntmps195
    go_wp2_with fail
    go_ret
    refine ⟨?_, rfl⟩
    rw [show n / 9223372036854775808 = 0 by omega, xor_u64_zero _ (by omega) (by omega)]
    simp [zz]; omega

theorem own_lit (w W : World) (b : UInt8) (x : Int) (hx : x = b.toNat) (hb : W.heap.size ≤ w.heap.size) : OwnB (w.alloc (.cells #[.int .u8 x] 5)) W.heap.size (.slice (some ⟨w.heap.size, 0, none⟩) 1 1) [b] := by
  have := World.ownsRow_lit (base := W.heap.size) (e := 5) (size := 1) w #[.int .u8 x] 1 hb (by decide) rfl
  unfold OwnB bs
  simp only [List.map_cons, List.map_nil, ← hx]
  exact this
def numB (n : Int) : List UInt8 := if n < 0 then [] else grb n.toNat
def intB (n : Int) : List UInt8 := grb (zz n).toNat
def textB (l : List UInt8) : List UInt8 := grb l.length ++ l
theorem own_nil (w : World) (B : Nat) : OwnB w B (.slice none 0 0) [] := World.ownsRow_nil _ _ _ _
theorem OwnB.base {w : World} {B B' : Nat} {v : Value} {l : List UInt8} (h : OwnB w B v l) (hb : B' ≤ B) : OwnB w B' v l := ⟨h.1, h.2.imp id fun ⟨g, cap, cur, e, hg, r⟩ => ⟨g, cap, cur, e, by omega, r⟩⟩

theorem num_c (n : Int) (hn : n ≤ 9223372036854775807) (w : World) : Calls Try.prog 202 #[.int .i64 n] w fun e w' => ∃ v, e = .returned v ∧ OwnB w' w.heap.size v (numB n) ∧ Ext w w' := by
  by_cases h : n < 0
  · have e := hide (show numB n = [] by simp [numB, h])
    go_enter Try.func202, Try.ntmps202
    go_wp2_with fail
    go_returns
    refine ⟨_, rfl, ?_, Ext.refl w⟩
    rw [e.out]; exact own_nil _ _
  · have e := hide (show numB n = grb n.toNat by simp [numB, h])
    go_enter Try.func202, Try.ntmps202
    go_wp2_with (go_at_call 194; refine (varint_c n (by omega) (by omega) _).mono ?_; rintro e w1 ⟨v1, rfl, hown1, hext1⟩)
    go_returns
    refine ⟨_, rfl, ?_, hext1⟩
    rw [e.out]; exact hown1
theorem int_c (n : Int) (h : -9223372036854775808 ≤ n ∧ n ≤ 9223372036854775807) (w : World) : Calls Try.prog 192 #[.int .i64 n] w fun e w' => ∃ v, e = .returned v ∧ OwnB w' w.heap.size v (intB n) ∧ Ext w w' := by
  have hz := zz_in h
  go_enter Try.func192, Try.ntmps192
  go_wp2_with (first | (go_at_call 195; refine (zigzag_c n h _).mono ?_; rintro e w1 ⟨rfl, rfl⟩) | (go_at_call 194; refine (varint_c (zz n) hz.1 hz.2 _).mono ?_; rintro e w1 ⟨v1, rfl, hown1, hext1⟩))
  go_returns
  exact ⟨_, rfl, hown1, hext1⟩
theorem text_own {w : World} {B : Nat} {v : Value} {s : ByteArray} (h : OwnB w B v (numB (s.size : Int))) : OwnB w B v (grb s.size) := by
  unfold numB at h; rw [if_neg (by omega)] at h; simpa using h
theorem size_list (s : ByteArray) : s.data.toList.length = s.size := by rw [Array.length_toList]; rfl
theorem text_app {w : World} {B : Nat} {v : Value} {s : ByteArray} (h : w.ownsRow B 5 1 v ((grb s.size).length + s.size) (bs (grb s.size) ++ bs s.data.toList)) : OwnB w B v (textB s.data.toList) := by
  unfold OwnB textB
  rw [size_list, List.length_append, size_list, bs_append]
  exact h
theorem text_c (s : ByteArray) (hs : s.size ≤ 140737488355000) (w : World) : Calls Try.prog 200 #[.string s] w fun e w' => ∃ v, e = .returned v ∧ OwnB w' w.heap.size v (textB s.data.toList) ∧ Ext w w' := by
  have hg := grb_ten (n := s.size) (by omega)
  go_enter Try.func200, Try.ntmps200
  go_wp2_with (first | (go_at_call 202; refine (num_c _ (by omega) _).mono ?_; rintro e w1 ⟨v1, rfl, hown1, hext1⟩; have hown1 := text_own hown1; have hz1 := hext1.size) | (at_builtin; refine wpl_app tBytes rfl (.tmp 5) (.tmp 6) rfl rfl hown1 rfl (Src.ofString _ Try.underlying9 s) (by unfold maxLen; omega) (by omega) (by omega) ?_; intro v2 w2 hown2 hgr2 _))
  go_returns
  refine ⟨_, rfl, ?_, ext_grown hext1 hgr2 (fun k hk => (hown1.lt k hk).1)⟩
  exact text_app hown2
end Go.Proofs.Ytoghgjgaolinaaa
