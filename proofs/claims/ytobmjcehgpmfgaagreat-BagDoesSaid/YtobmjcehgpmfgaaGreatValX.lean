/-
  A helper of ours: no claim of its own. Layer 5 (value): what was written is read.
-/
import Derived.Laws.BitsAllLaws
import Derived.Laws.Bits64b
import Derived.Laws.BitsLemmas
import Derived.Test.YtobmjcehgpmfgaaGreatRows
import Derived.Test.YtobmjcehgpmfgaaGreatMem
import Derived.Handy
import Derived.WalkSmall
import Derived.Test.YtobmjcehgpmfgaaGreatRowA
import Derived.WalkSpells
import Derived.Deep.LoopGhost
namespace Go.Proofs.YtobmjcehgpmfgaaGreat
theorem or128_all : ∀ n : Fin 256, bits BinOp.or IntKind.u8 (n.val : Int) 128 = ((n.val % 128 + 128 : Nat) : Int) := by decide +kernel
theorem or128 (x : Int) (h0 : 0 ≤ x) (h1 : x < 256) : bits BinOp.or IntKind.u8 x 128 = x % 128 + 128 := by
  have := or128_all ⟨x.toNat, by omega⟩
  rw [show ((⟨x.toNat, by omega⟩ : Fin 256).val : Int) = x by simp; omega] at this
  rw [this]; simp; omega
theorem ofInt_toNat (x : Int) (h0 : 0 ≤ x) (h1 : x ≤ 18446744073709551615) : (BitVec.ofInt 64 x).toNat = x.toNat := by
  rw [BitVec.toNat_ofInt]; omega
theorem xor_u64_zero (x : Int) (h0 : 0 ≤ x) (h1 : x ≤ 18446744073709551615) : bits .xor .u64 x 0 = x := by
  show IntKind.u64.wrap ((BitVec.ofInt 64 x ^^^ BitVec.ofInt 64 0).toNat : Int) = _
  rw [show BitVec.ofInt 64 0 = 0#64 by decide, BitVec.xor_zero, ofInt_toNat x h0 h1, IntKind.wrap_u64]
  omega
theorem xor_u64_ones (x : Int) (h0 : 0 ≤ x) (h1 : x ≤ 18446744073709551615) : bits .xor .u64 x 18446744073709551615 = 18446744073709551615 - x := by
  show IntKind.u64.wrap ((BitVec.ofInt 64 x ^^^ BitVec.ofInt 64 18446744073709551615).toNat : Int) = _
  rw [show BitVec.ofInt 64 18446744073709551615 = BitVec.allOnes 64 by decide, BitVec.xor_allOnes, BitVec.toNat_not, ofInt_toNat x h0 h1, IntKind.wrap_u64]
  omega
end Go.Proofs.YtobmjcehgpmfgaaGreat
set_option linter.unusedVariables false
set_option linter.unusedSimpArgs false
namespace Go.Proofs.YtobmjcehgpmfgaaGreat
open Go.RowKit
attribute [local go_sem] GW.cell GW.frozen In.eq_true In.le_true In.ne In.ne' In.ne_add In.ne_add' In.lt_add Upto.le_true Upto.le_add Upto.lt_add
theorem tBytes : ElemT Tryz.prog 216 5 (.int .u8 0) 1 1 := ElemT.mk' Tryz.underlying216 (by kernel_rfl) rfl (by omega)

/-- A number's groups, the lowest first. -/
def grb (n : Nat) : List UInt8 := if h : n < 128 then [UInt8.ofNat n] else UInt8.ofNat (n % 128 + 128) :: grb (n / 128)
termination_by n
decreasing_by omega
theorem grb_small {n : Nat} (h : n < 128) : grb n = [UInt8.ofNat n] := by rw [grb, dif_pos h]
theorem grb_great {n : Nat} (h : ¬ n < 128) : grb n = UInt8.ofNat (n % 128 + 128) :: grb (n / 128) := by rw [grb, dif_neg h]
theorem grb_le : ∀ (k n : Nat), n < 128 ^ (k + 1) → (grb n).length ≤ k + 1
  | 0, n, h => by rw [grb_small (by simpa using h)]; simp
  | k + 1, n, h => by
    by_cases hn : n < 128
    · rw [grb_small hn]; simp
    · rw [grb_great hn]
      have := grb_le k (n / 128) (by rw [Nat.div_lt_iff_lt_mul (by omega)]; rw [Nat.pow_succ] at h; exact h)
      simp; omega
theorem grb_ten {n : Nat} (h : n < 18446744073709551616) : (grb n).length ≤ 10 := grb_le 9 n (Nat.lt_of_lt_of_le h (by decide))

theorem u8_of (k : Nat) (h : k < 256) : ((UInt8.ofNat k).toNat : Int) = k := by simp; omega
theorem bs_u8 (k : Nat) (x : Int) (h : k < 256) (e : x = k) : [Value.int .u8 x] = bs [UInt8.ofNat k] := by simp only [bs, List.map_cons, List.map_nil, u8_of k h, e]
set_option maxHeartbeats 400000 in
theorem varint_c (n : Int) (h0 : 0 ≤ n) (hn : n ≤ 18446744073709551615) (w : World) : Calls Tryz.prog 347 #[.int .u64 n] w fun e w' => ∃ v, e = .returned v ∧ OwnB w' w.heap.size v (grb n.toNat) ∧ Ext w w' := by
  have hten := grb_ten (n := n.toNat) (by omega)
  go_enter Tryz.func347, Tryz.ntmps347
  go_wp2_with fail
  go_loopw [0, 3] (fun x v wr => ∃ (m : Int) (l : List UInt8), x = .int .u64 m ∧ 0 ≤ m ∧ m ≤ 18446744073709551615 ∧ OwnB wr w.heap.size v l ∧ Hid (l ++ grb m.toNat = grb n.toNat) ∧ l.length ≤ 10 ∧ Ext w wr)
    (fun x _ _ => (intOf x).toNat)
  case atStart => exact ⟨n, [], rfl, h0, hn, World.ownsRow_nil _ _ _ _, rfl, by simp, Ext.refl _⟩
  case round =>
    obtain ⟨m, l, rfl, hm0, hm1, hown, hl, hlen, hext⟩ := hrel
    by_cases h : m < 128
    · have hs := Hid.out hl
      rw [grb_small (by omega)] at hs
      have hs := hide hs
      have hsz := hext.size
      go_wp2_with (at_builtin; refine wpl_app tBytes rfl (.tmp 14) (.tmp 17) rfl rfl (hown.alloc _) rfl (src_one Tryz.underlying216 _ _ _ rfl) (by unfold maxLen; omega) (by omega) (by simp; omega) ?_; intro v' w1 hown1 hgr1 _)
      go_returns
      refine ⟨_, rfl, ?_, ?_⟩
      · rw [bs_u8 m.toNat _ (by omega) (by omega), ← bs_append, hs.out] at hown1
        have := congrArg List.length hs.out
        simp at this
        unfold OwnB
        rw [← this]
        exact hown1
      · exact ext_grown (hext.alloc _) hgr1 (fun k hk => (hown.lt k hk).1)
    · have hs := Hid.out hl
      rw [grb_great (by omega)] at hs
      have hs := hide hs
      have hsz := hext.size
      have hb := or128 (m % 256) (by omega) (by omega)
      go_wp2_with (at_builtin; refine wpl_app tBytes rfl (.tmp 6) (.tmp 10) rfl rfl (hown.alloc _) rfl (src_one Tryz.underlying216 _ _ _ rfl) (by unfold maxLen; omega) (by omega) (by simp; omega) ?_; intro v' w1 hown1 hgr1 _)
      go_roundw
      case rel =>
        rw [bs_u8 (m.toNat % 128 + 128) _ (by omega) (by omega), ← bs_append] at hown1
        have hlen' := congrArg List.length hs.out
        simp at hlen'
        refine ⟨m / 128, l ++ [UInt8.ofNat (m.toNat % 128 + 128)], rfl, by omega, by omega, ?_, ?_, by simp; omega, ext_grown (hext.alloc _) hgr1 (fun k hk => (hown.lt k hk).1)⟩
        · unfold OwnB; rw [List.length_append]; exact hown1
        · refine hide ?_
          rw [List.append_assoc, List.singleton_append, show (m / 128).toNat = m.toNat / 128 by omega]
          exact hs.out
      case measure => simp [intOf]; omega

/-- The place of a number among those of both signs. -/
def zz (n : Int) : Int := if n < 0 then 2 * (-1 - n) + 1 else 2 * n
theorem zz_in {n : Int} (h : -9223372036854775808 ≤ n ∧ n ≤ 9223372036854775807) : 0 ≤ zz n ∧ zz n ≤ 18446744073709551615 := by unfold zz; split <;> omega
theorem zigzag_c (n : Int) (h : -9223372036854775808 ≤ n ∧ n ≤ 9223372036854775807) (w : World) : Calls Tryz.prog 348 #[.int .i64 n] w fun e w' => e = .returned (.int .u64 (zz n)) ∧ w = w' := by
  by_cases h0 : n < 0
  · go_enter Tryz.func348, Tryz.ntmps348
    go_wp2_with fail
    go_ret
    refine ⟨?_, rfl⟩
    rw [IntKind.wrap_u64, IntKind.wrap_u64, IntKind.wrap_u64, show n / 9223372036854775808 % 18446744073709551616 = 18446744073709551615 by omega, xor_u64_ones _ (by omega) (by omega)]
    simp [zz, h0]; omega
  · go_enter Tryz.func348, Tryz.ntmps348
    go_wp2_with fail
    go_ret
    refine ⟨?_, rfl⟩
    rw [show n / 9223372036854775808 = 0 by omega, xor_u64_zero _ (by omega) (by omega)]
    simp [zz]; omega

def numB (n : Int) : List UInt8 := if n < 0 then [] else grb n.toNat
def intB (n : Int) : List UInt8 := grb (zz n).toNat
def textB (l : List UInt8) : List UInt8 := grb l.length ++ l
theorem own_nil (w : World) (B : Nat) : OwnB w B (.slice none 0 0) [] := World.ownsRow_nil _ _ _ _
theorem num_c (n : Int) (hn : n ≤ 9223372036854775807) (w : World) : Calls Tryz.prog 355 #[.int .i64 n] w fun e w' => ∃ v, e = .returned v ∧ OwnB w' w.heap.size v (numB n) ∧ Ext w w' := by
  by_cases h : n < 0
  · have e := hide (show numB n = [] by simp [numB, h])
    go_enter Tryz.func355, Tryz.ntmps355
    go_wp2_with fail
    go_returns
    refine ⟨_, rfl, ?_, Ext.refl w⟩
    rw [e.out]; exact own_nil _ _
  · have e := hide (show numB n = grb n.toNat by simp [numB, h])
    go_enter Tryz.func355, Tryz.ntmps355
    go_wp2_with (go_at_call 347; refine (varint_c n (by omega) (by omega) _).mono ?_; rintro e w1 ⟨v1, rfl, hown1, hext1⟩)
    go_returns
    refine ⟨_, rfl, ?_, hext1⟩
    rw [e.out]; exact hown1
theorem int_c (n : Int) (h : -9223372036854775808 ≤ n ∧ n ≤ 9223372036854775807) (w : World) : Calls Tryz.prog 345 #[.int .i64 n] w fun e w' => ∃ v, e = .returned v ∧ OwnB w' w.heap.size v (intB n) ∧ Ext w w' := by
  have hz := zz_in h
  go_enter Tryz.func345, Tryz.ntmps345
  go_wp2_with (first | (go_at_call 348; refine (zigzag_c n h _).mono ?_; rintro e w1 ⟨rfl, rfl⟩) | (go_at_call 347; refine (varint_c (zz n) hz.1 hz.2 _).mono ?_; rintro e w1 ⟨v1, rfl, hown1, hext1⟩))
  go_returns
  exact ⟨_, rfl, hown1, hext1⟩
theorem text_own {w : World} {B : Nat} {v : Value} {s : ByteArray} (h : OwnB w B v (numB (s.size : Int))) : OwnB w B v (grb s.size) := by
  unfold numB at h; rw [if_neg (by omega)] at h; simpa using h
theorem size_list (s : ByteArray) : s.data.toList.length = s.size := by rw [Array.length_toList]; rfl
theorem text_app {w : World} {B : Nat} {v : Value} {s : ByteArray} (h : w.ownsRow B 5 1 v ((grb s.size).length + s.size) (bs (grb s.size) ++ bs s.data.toList)) : OwnB w B v (textB s.data.toList) := by
  unfold OwnB textB
  rw [size_list, List.length_append, size_list, bs_append]
  exact h
theorem text_c (s : ByteArray) (hs : s.size ≤ 140737488355000) (w : World) : Calls Tryz.prog 353 #[.string s] w fun e w' => ∃ v, e = .returned v ∧ OwnB w' w.heap.size v (textB s.data.toList) ∧ Ext w w' := by
  have hg := grb_ten (n := s.size) (by omega)
  go_enter Tryz.func353, Tryz.ntmps353
  go_wp2_with (first | (go_at_call 355; refine (num_c _ (by omega) _).mono ?_; rintro e w1 ⟨v1, rfl, hown1, hext1⟩; have hown1 := text_own hown1; have hz1 := hext1.size) | (at_builtin; refine wpl_app tBytes rfl (.tmp 5) (.tmp 6) rfl rfl hown1 rfl (Src.ofString _ Tryz.underlying9 s) (by unfold maxLen; omega) (by omega) (by omega) ?_; intro v2 w2 hown2 hgr2 _))
  go_returns
  refine ⟨_, rfl, ?_, ext_grown hext1 hgr2 (fun k hk => (hown1.lt k hk).1)⟩
  exact text_app hown2
end Go.Proofs.YtobmjcehgpmfgaaGreat
namespace Go.Proofs.YtobmjcehgpmfgaaGreat

/-- How many bytes there are ahead of the first one that no other follows. -/
def lead : List UInt8 → Nat
  | [] => 0
  | c :: r => if 128 ≤ c.toNat then lead r + 1 else 0
def gval : List UInt8 → Nat
  | [] => 0
  | c :: r => c.toNat % 128 + 128 * gval r
def parE (most : Nat) (l : List UInt8) : Int :=
  if most ≤ lead l then 4 else if l.length ≤ lead l then 5 else if lead l = 9 ∧ 1 < (l.getD (lead l) 0).toNat then 4 else if 0 < lead l ∧ (l.getD (lead l) 0).toNat = 0 then 4 else 0
def parV (most : Nat) (l : List UInt8) : Nat := if parE most l = 0 then gval (l.take (lead l + 1)) else 0
def parR (most : Nat) (l : List UInt8) : List UInt8 := if parE most l = 0 then l.drop (lead l + 1) else []

/-- The first k bytes are each followed by another one. -/
def Led (l : List UInt8) (k : Nat) : Prop := k ≤ l.length ∧ ∀ j c, j < k → l[j]? = some c → 128 ≤ c.toNat
section
variable {l : List UInt8} {k most : Nat}
end
/-- The number of a place among those of both signs. -/
def unz (n : Nat) : Int := if n % 2 = 1 then -1 - (n / 2 : Nat) else (n / 2 : Nat)

/-- What a reader has left, and its first error, behind each element. -/
def numSt (most : Nat) (l : List UInt8) (e : Int) : List UInt8 × Int := if e = 0 then (parR most l, parE most l) else (l, e)
def numVal (most : Nat) (l : List UInt8) (e : Int) : Nat := if e = 0 then parV most l else 0
def byteSt (l : List UInt8) (e : Int) : List UInt8 × Int := if e = 0 then (if l = [] then ([], 5) else (l.tail, 0)) else (l, e)
def byteVal (l : List UInt8) (e : Int) : UInt8 := if e = 0 then l.headD 0 else 0
def textE (most : Int) (l : List UInt8) (e : Int) : Int :=
  if (numSt 9 l e).2 ≠ 0 then (numSt 9 l e).2 else if most < (numVal 9 l e : Int) then 6 else if (numSt 9 l e).1.length < numVal 9 l e then 5 else 0
def textSt (most : Int) (l : List UInt8) (e : Int) : List UInt8 × Int :=
  if textE most l e = 0 then ((numSt 9 l e).1.drop (numVal 9 l e), 0) else if e = 0 then ([], textE most l e) else (l, e)
def textVal (most : Int) (l : List UInt8) (e : Int) : List UInt8 := if textE most l e = 0 then (numSt 9 l e).1.take (numVal 9 l e) else []
/-- What is left of the bytes, whether they are a number or not. -/
def parL (most : Nat) (l : List UInt8) : List UInt8 := l.drop (if most ≤ lead l then most else lead l + 1)
/-- What a reader is behind an error. -/
def failSt (l : List UInt8) (e x : Int) : List UInt8 × Int := if e = 0 ∧ x ≠ 0 then ([], x) else (l, e)
section
variable {l : List UInt8} {k : Nat} {c : UInt8}
end
section
variable {l l1 : List UInt8} {e e1 most : Int}
theorem text_ok (h : numSt 9 l e = (l1, 0)) (hm : ¬ most < numVal 9 l e) (hl : ¬ l1.length < numVal 9 l e) : textSt most l e = (l1.drop (numVal 9 l e), 0) ∧ textVal most l e = l1.take (numVal 9 l e) := by
  have ht : textE most l e = 0 := by unfold textE; rw [h, if_neg (by simp), if_neg hm, if_neg hl]
  unfold textSt textVal
  rw [ht, if_pos rfl, if_pos rfl, h]
  exact ⟨rfl, rfl⟩
end
end Go.Proofs.YtobmjcehgpmfgaaGreat
set_option linter.unusedVariables false
set_option linter.unusedSimpArgs false
namespace Go.Proofs.YtobmjcehgpmfgaaGreat

theorem u8_low (k : Nat) (h : k < 256) : (UInt8.ofNat k).toNat = k := by simp; omega
/-- The byte that ends a number, and where it stands. -/
theorem grb_top (m : Nat) : ∀ (n : Nat) (r : List UInt8), n ≤ m → lead (grb n ++ r) + 1 = (grb n).length ∧ ((grb n ++ r).getD (lead (grb n ++ r)) 0).toNat < 128 ∧
    (n ≠ 0 → ((grb n ++ r).getD (lead (grb n ++ r)) 0).toNat ≠ 0) ∧ ((grb n ++ r).getD (lead (grb n ++ r)) 0).toNat * 128 ^ lead (grb n ++ r) ≤ n := by
  induction m with
  | zero =>
    intro n r hn
    obtain rfl : n = 0 := by omega
    rw [grb_small (by omega)]
    simp [lead]
  | succ m ih =>
    intro n r hn
    by_cases h : n < 128
    · rw [grb_small h]
      have e := u8_low n (by omega)
      have hl : lead ([UInt8.ofNat n] ++ r) = 0 := by
        show lead (UInt8.ofNat n :: r) = 0
        unfold lead; rw [if_neg (by omega)]
      rw [hl]
      have hg : ([UInt8.ofNat n] ++ r).getD 0 0 = UInt8.ofNat n := rfl
      rw [hg, e]
      exact ⟨rfl, h, id, by simp⟩
    · have hd : n / 128 ≤ m := by omega
      obtain ⟨h1, h2, h3, h4⟩ := ih (n / 128) r hd
      rw [grb_great h]
      have e := u8_low (n % 128 + 128) (by omega)
      have hl : lead ((UInt8.ofNat (n % 128 + 128) :: grb (n / 128)) ++ r) = lead (grb (n / 128) ++ r) + 1 := by
        show lead (UInt8.ofNat (n % 128 + 128) :: (grb (n / 128) ++ r)) = _
        rw [lead, if_pos (by omega)]
      rw [hl]
      have hg : ((UInt8.ofNat (n % 128 + 128) :: grb (n / 128)) ++ r).getD (lead (grb (n / 128) ++ r) + 1) 0 = (grb (n / 128) ++ r).getD (lead (grb (n / 128) ++ r)) 0 := rfl
      rw [hg]
      refine ⟨by simp; exact h1, h2, fun _ => h3 (by omega), ?_⟩
      rw [Nat.pow_succ, ← Nat.mul_assoc]
      have := Nat.mul_le_mul_right 128 h4
      omega
theorem grb_gval (m : Nat) : ∀ n, n ≤ m → gval (grb n) = n := by
  induction m with
  | zero =>
    intro n hn
    obtain rfl : n = 0 := by omega
    rw [grb_small (n := 0) (by omega)]
    rfl
  | succ m ih =>
    intro n hn
    by_cases h : n < 128
    · rw [grb_small h]; simp only [gval, u8_low n (by omega)]; omega
    · rw [grb_great h]; simp only [gval, u8_low (n % 128 + 128) (by omega), ih (n / 128) (by omega)]; omega
theorem par_grp {most n : Nat} (r : List UInt8) (hm : (grb n).length ≤ most) (h64 : n < 18446744073709551616) : parE most (grb n ++ r) = 0 ∧ parV most (grb n ++ r) = n ∧ parR most (grb n ++ r) = r := by
  obtain ⟨h1, h2, h3, h4⟩ := grb_top n n r (Nat.le_refl _)
  have e : parE most (grb n ++ r) = 0 := by
    unfold parE
    rw [if_neg (by omega), if_neg (by simp; omega), if_neg, if_neg]
    · rintro ⟨ha, hb⟩
      have : n = 0 := by
        by_cases hn : n = 0
        · exact hn
        · exact absurd hb (h3 hn)
      subst this
      rw [grb_small (by omega)] at h1
      simp at h1; rw [grb_small (by omega)] at ha; simp at ha; omega
    · rintro ⟨ha, hb⟩
      rw [ha] at h4 hb
      have := Nat.mul_le_mul_right (128 ^ 9) hb
      omega
  have ht : (grb n ++ r).take (lead (grb n ++ r) + 1) = grb n := by rw [h1]; simp
  have hd : (grb n ++ r).drop (lead (grb n ++ r) + 1) = r := by rw [h1]; simp
  exact ⟨e, by unfold parV; rw [if_pos e, ht, grb_gval n n (Nat.le_refl _)], by unfold parR; rw [if_pos e, hd]⟩

theorem num_back (n : Int) (h0 : 0 ≤ n) (h1 : n ≤ 9223372036854775807) (r : List UInt8) : (numVal 9 (numB n ++ r) 0 : Int) = n ∧ numSt 9 (numB n ++ r) 0 = (r, 0) := by
  have hl := grb_le 8 n.toNat (by have : (128 : Nat) ^ (8 + 1) = 9223372036854775808 := by decide
                                  omega)
  obtain ⟨a, b, c⟩ := par_grp (most := 9) (n := n.toNat) r hl (by omega)
  unfold numVal numSt numB
  rw [if_pos rfl, if_pos rfl, if_neg (by omega), a, b, c]
  exact ⟨by omega, rfl⟩
theorem unz_zz (n : Int) : unz (zz n).toNat = n := by
  unfold unz zz
  split <;> split <;> omega
theorem int_back (n : Int) (h : -9223372036854775808 ≤ n ∧ n ≤ 9223372036854775807) (r : List UInt8) : unz (numVal 10 (intB n ++ r) 0) = n ∧ numSt 10 (intB n ++ r) 0 = (r, 0) := by
  have hz := zz_in h
  obtain ⟨a, b, c⟩ := par_grp (most := 10) (n := (zz n).toNat) r (grb_ten (by omega)) (by omega)
  unfold numVal numSt intB
  rw [if_pos rfl, if_pos rfl, a, b, c]
  exact ⟨unz_zz n, rfl⟩
end Go.Proofs.YtobmjcehgpmfgaaGreat
set_option linter.unusedVariables false
set_option linter.unusedSimpArgs false
namespace Go.Proofs.YtobmjcehgpmfgaaGreat
open Go.RowKit
attribute [local go_sem] GW.cell GW.frozen In.eq_true In.le_true In.ne In.ne' In.ne_add In.ne_add' In.lt_add Upto.le_true Upto.le_add Upto.lt_add
/-- A value's bytes. -/
def valB (a : Vl) : List UInt8 := if may a then (if a.1 = 1 then 1 :: intB a.2.1 else 2 :: textB a.2.2.data.toList) else []
theorem intB_len {n : Int} (h : -9223372036854775808 ≤ n ∧ n ≤ 9223372036854775807) : (intB n).length ≤ 10 := grb_ten (by have := zz_in h; omega)
theorem textB_len {s : ByteArray} (h : s.size ≤ 64) : (textB s.data.toList).length ≤ 74 := by
  unfold textB
  rw [List.length_append, size_list]
  have := grb_ten (n := s.size) (by omega); omega
set_option maxHeartbeats 1000000 in
set_option maxRecDepth 100000 in
theorem numBytes_c (n : Int) (h : -9223372036854775808 ≤ n ∧ n ≤ 9223372036854775807) (w : World) : Calls Tryz.prog 342 #[.int .i64 n] w fun e w' => ∃ v, e = .returned v ∧ OwnB w' w.heap.size v (1 :: intB n) ∧ Ext w w' := by
  have hl := intB_len h
  have hlit := hide (World.ownsRow_lit (base := w.heap.size) (e := 5) (size := 1) w #[.int .u8 1] 1 (Nat.le_refl _) (by decide) rfl)
  have hc := hide (fun w => int_c n h w)
  clear h
  go_enter Tryz.func342, Tryz.ntmps342
  go_wp2_with (first | (go_at_call 345; refine (hc.out _).mono ?_; rintro ee w1 ⟨v1, rfl, ho1, hx1⟩; have hz1 := hx1.size; simp only [World.size_alloc] at hz1; have hk1 := own_ext hlit.out hx1) | (at_builtin; (refine wpl_app tBytes rfl (.tmp 3) (.tmp 5) rfl rfl hk1 rfl (src_sl Tryz.underlying216 (Sl.own (S := []) ho1 (by simp)) (bs_one _) (by omega)) (by unfold maxLen; omega) (by omega) (by omega) ?_; intro v2 w2 hp2 hg2 _; replace hp2 := own_app (l := [1]) hp2; have he2 := ext_grown (((Ext.refl w).alloc _).trans hx1) hg2 (fun k hk => (hlit.out.lt k hk).1))))
  go_returns
  exact ⟨_, rfl, hp2, he2⟩
set_option maxHeartbeats 1000000 in
set_option maxRecDepth 100000 in
theorem textBytes_c (s : ByteArray) (hs : s.size ≤ 64) (w : World) : Calls Tryz.prog 350 #[.string s] w fun e w' => ∃ v, e = .returned v ∧ OwnB w' w.heap.size v (2 :: textB s.data.toList) ∧ Ext w w' := by
  have hl := textB_len hs
  have hlit := hide (World.ownsRow_lit (base := w.heap.size) (e := 5) (size := 1) w #[.int .u8 2] 1 (Nat.le_refl _) (by decide) rfl)
  have hc := hide (fun w => text_c s (by omega) w)
  clear hs
  go_enter Tryz.func350, Tryz.ntmps350
  go_wp2_with (first | (go_at_call 353; refine (hc.out _).mono ?_; rintro ee w1 ⟨v1, rfl, ho1, hx1⟩; have hz1 := hx1.size; simp only [World.size_alloc] at hz1; have hk1 := own_ext hlit.out hx1) | (at_builtin; (refine wpl_app tBytes rfl (.tmp 3) (.tmp 5) rfl rfl hk1 rfl (src_sl Tryz.underlying216 (Sl.own (S := []) ho1 (by simp)) (bs_one _) (by omega)) (by unfold maxLen; omega) (by omega) (by omega) ?_; intro v2 w2 hp2 hg2 _; replace hp2 := own_app (l := [2]) hp2; have he2 := ext_grown (((Ext.refl w).alloc _).trans hx1) hg2 (fun k hk => (hlit.out.lt k hk).1))))
  go_returns
  exact ⟨_, rfl, hp2, he2⟩
set_option maxHeartbeats 1000000 in
set_option maxRecDepth 100000 in
theorem vbytes_c (k n : Int) (s : ByteArray) (hn : -9223372036854775808 ≤ n ∧ n ≤ 9223372036854775807) (w : World) : Calls Tryz.prog 221 #[val k n s] w fun e w' => ∃ v, e = .returned v ∧ OwnB w' w.heap.size v (valB (k, n, s)) ∧ Ext w w' := by
  unfold valB may
  simp only
  rcases may_cases (k := k) (n := n) (s := s) with ⟨rfl, h⟩ | ⟨rfl, rfl, h⟩ | ⟨hm, h⟩
  · rw [may_num h, if_pos rfl, if_pos rfl]
    have h1 := hide (fun w => inner_num n s h w)
    have hc := hide (fun w => numBytes_c n hn w)
    clear h hn
    go_enter Tryz.func221, Tryz.ntmps221
    go_wp2_with (first | (go_at_call 265; with_reducible refine seq_gw (h1.out _) ?_; intro g) | (go_at_call 342; refine (hc.out _).mono ?_; rintro ee w1 ⟨v1, rfl, ho1, hx1⟩))
    go_returns
    have hz := GW.size g
    exact ⟨_, rfl, own_base ho1 (by simp only [World.size_alloc] at hz; omega), (((Ext.refl w).alloc _).trans g.grown).trans hx1⟩
  · rw [may_text h, if_pos rfl, if_neg (by decide)]
    have h1 := hide (fun w => inner_text s h w)
    have hc := hide (fun w => textBytes_c s h w)
    clear h hn
    go_enter Tryz.func221, Tryz.ntmps221
    go_wp2_with (first | (go_at_call 265; with_reducible refine seq_gw (h1.out _) ?_; intro g) | (go_at_call 350; refine (hc.out _).mono ?_; rintro ee w1 ⟨v1, rfl, ho1, hx1⟩))
    go_returns
    have hz := GW.size g
    exact ⟨_, rfl, own_base ho1 (by simp only [World.size_alloc] at hz; omega), (((Ext.refl w).alloc _).trans g.grown).trans hx1⟩
  · rw [hm, if_neg (by decide)]
    have h1 := hide (fun w => inner_none k n s h w)
    clear h hn
    go_enter Tryz.func221, Tryz.ntmps221
    go_wp2_with (go_at_call 265; with_reducible refine seq_gw (h1.out _) ?_; intro g)
    go_returns
    exact ⟨_, rfl, World.ownsRow_nil _ _ _ _, ((Ext.refl w).alloc _).trans g.grown⟩
end Go.Proofs.YtobmjcehgpmfgaaGreat
set_option linter.unusedVariables false
set_option linter.unusedSimpArgs false
namespace Go.Proofs.YtobmjcehgpmfgaaGreat
open Go.RowKit
attribute [local go_sem] GW.cell GW.frozen In.eq_true In.le_true In.ne In.ne' In.ne_add In.ne_add' In.lt_add Upto.le_true Upto.le_add Upto.lt_add
attribute [-go_sem] sliced
attribute [local go_sem] sliced_eq

end Go.Proofs.YtobmjcehgpmfgaaGreat
set_option linter.unusedVariables false
set_option linter.unusedSimpArgs false
namespace Go.Proofs.YtobmjcehgpmfgaaGreat
open Go.RowKit
attribute [local go_sem] GW.cell GW.frozen In.eq_true In.le_true In.ne In.ne' In.ne_add In.ne_add' In.lt_add Upto.le_true Upto.le_add Upto.lt_add
attribute [-go_sem] sliced
attribute [local go_sem] sliced_eq


end Go.Proofs.YtobmjcehgpmfgaaGreat
set_option linter.unusedVariables false
set_option linter.unusedSimpArgs false
namespace Go.Proofs.YtobmjcehgpmfgaaGreat
open Go.RowKit
attribute [local go_sem] GW.cell GW.frozen In.eq_true In.le_true In.ne In.ne' In.ne_add In.ne_add' In.lt_add Upto.le_true Upto.le_add Upto.lt_add
attribute [-go_sem] sliced
attribute [local go_sem] sliced_eq

def manyN (most : Nat) (l : List UInt8) : Nat := if parE most l = 0 then lead l + 1 else 0
end Go.Proofs.YtobmjcehgpmfgaaGreat
set_option linter.unusedVariables false
set_option linter.unusedSimpArgs false
namespace Go.Proofs.YtobmjcehgpmfgaaGreat
open Go.RowKit
end Go.Proofs.YtobmjcehgpmfgaaGreat
set_option linter.unusedVariables false
set_option linter.unusedSimpArgs false
namespace Go.Proofs.YtobmjcehgpmfgaaGreat
open Go.RowKit
attribute [local go_sem] GW.cell GW.frozen In.eq_true In.le_true In.ne In.ne' In.ne_add In.ne_add' In.lt_add Upto.le_true Upto.le_add Upto.lt_add
/-- What is wrong with the bytes of a value; what is left behind; what the value is. -/
def rdE : List UInt8 → Int
  | [] => 5
  | c :: r => if c.toNat = 1 then (numSt 10 r 0).2 else if c.toNat = 2 then (textSt 64 r 0).2 else 4
def rdS : List UInt8 → List UInt8 × Int
  | [] => ([], 5)
  | c :: r => if c.toNat = 1 then numSt 10 r 0 else if c.toNat = 2 then textSt 64 r 0 else (r, 0)
def rdV (l : List UInt8) : Vl :=
  if rdE l = 0 then (match l with
    | [] => (0, 0, ⟨#[]⟩)
    | c :: r => if c.toNat = 1 then (1, unz (numVal 10 r 0), ⟨#[]⟩) else (2, 0, ⟨(textVal 64 r 0).toArray⟩))
  else (0, 0, ⟨#[]⟩)
abbrev zv : List Value := [.int .i64 0, .int .i64 0, .string ⟨#[]⟩]
/-- The next value. -/
def vl (a : Vl) : Value := val a.1 a.2.1 a.2.2
end Go.Proofs.YtobmjcehgpmfgaaGreat
set_option linter.unusedVariables false
set_option linter.unusedSimpArgs false
namespace Go.Proofs.YtobmjcehgpmfgaaGreat
open Go.RowKit
theorem text_back' (l : List UInt8) (hl : l.length ≤ 64) (r : List UInt8) : textVal 64 (textB l ++ r) 0 = l ∧ textSt 64 (textB l ++ r) 0 = (r, 0) := by
  have h := num_back (l.length : Int) (by omega) (by omega) (l ++ r)
  have e : numB (l.length : Int) = grb l.length := by unfold numB; rw [if_neg (by omega)]; simp
  rw [e] at h
  have e2 : textB l ++ r = grb l.length ++ (l ++ r) := by unfold textB; rw [List.append_assoc]
  rw [e2]
  have hv : numVal 9 (grb l.length ++ (l ++ r)) 0 = l.length := by have := h.1; omega
  obtain ⟨h1, h2⟩ := text_ok (most := 64) h.2 (by rw [hv]; omega) (by rw [hv]; simp)
  rw [h1, h2, hv]
  simp
theorem rd_num (r : List UInt8) : rdE (1 :: r) = (numSt 10 r 0).2 ∧ rdS (1 :: r) = numSt 10 r 0 ∧ ((numSt 10 r 0).2 = 0 → rdV (1 :: r) = (1, unz (numVal 10 r 0), ⟨#[]⟩)) := by
  have e : rdE (1 :: r) = (numSt 10 r 0).2 := by simp [rdE]
  refine ⟨e, by simp [rdS], fun h => ?_⟩
  unfold rdV
  rw [e, if_pos h]
  simp
theorem rd_text (r : List UInt8) : rdE (2 :: r) = (textSt 64 r 0).2 ∧ rdS (2 :: r) = textSt 64 r 0 ∧ ((textSt 64 r 0).2 = 0 → rdV (2 :: r) = (2, 0, ⟨(textVal 64 r 0).toArray⟩)) := by
  have e : rdE (2 :: r) = (textSt 64 r 0).2 := by simp [rdE]
  refine ⟨e, by simp [rdS], fun h => ?_⟩
  unfold rdV
  rw [e, if_pos h]
  simp
theorem val_back {k n : Int} {s : ByteArray} (hn : -9223372036854775808 ≤ n ∧ n ≤ 9223372036854775807) (h : mayB k n s = true) (l : List UInt8) : rdE (valB (k, n, s) ++ l) = 0 ∧ rdV (valB (k, n, s) ++ l) = (k, n, s) ∧ rdS (valB (k, n, s) ++ l) = (l, 0) := by
  unfold valB may
  simp only
  rw [h, if_pos rfl]
  rcases may_cases (k := k) (n := n) (s := s) with ⟨rfl, h'⟩ | ⟨rfl, rfl, h'⟩ | ⟨hm, _⟩
  · rw [if_pos rfl, List.cons_append]
    obtain ⟨h1, h2⟩ := int_back n hn l
    obtain ⟨e1, e2, e3⟩ := rd_num (intB n ++ l)
    rw [h2] at e1 e2 e3
    rw [e1, e2, e3 rfl, h1, empty_of h']
    exact ⟨rfl, rfl, rfl⟩
  · rw [if_neg (by decide), List.cons_append]
    obtain ⟨h1, h2⟩ := text_back' s.data.toList (by rw [size_list]; exact h') l
    obtain ⟨e1, e2, e3⟩ := rd_text (textB s.data.toList ++ l)
    rw [h2] at e1 e2 e3
    rw [e1, e2, e3 rfl, h1]
    exact ⟨rfl, rfl, rfl⟩
  · rw [h] at hm; cases hm
theorem valB_len {k n : Int} {s : ByteArray} (hn : -9223372036854775808 ≤ n ∧ n ≤ 9223372036854775807) : (valB (k, n, s)).length ≤ 75 := by
  unfold valB may
  simp only
  split
  · rename_i h
    split
    · have := intB_len hn; simp; omega
    · rcases may_cases (k := k) (n := n) (s := s) with ⟨rfl, h'⟩ | ⟨rfl, rfl, h'⟩ | ⟨hm, _⟩
      · rename_i h1; exact absurd rfl h1
      · have := textB_len h'; simp; omega
      · rw [h] at hm; cases hm
  · simp
end Go.Proofs.YtobmjcehgpmfgaaGreat
