/-
  A helper of ours: no claim of its own. Layer 3 (bin): the bytes of numbers and texts.
-/
import Derived.Test.YtgjdgejljkhnlaaRows
import Derived.Test.YtgjdgejljkhnlaaMem
import Derived.Test.YtgjdgejljkhnlaaBits
import Derived.Handy
import Derived.WalkSmall
set_option linter.unusedVariables false
set_option linter.unusedSimpArgs false
namespace Go.Proofs.Ytgjdgejljkhnlaa
open Go.RowKit
attribute [local go_sem] GW.cell GW.frozen In.eq_true In.le_true In.ne In.ne' In.ne_add In.ne_add' In.lt_add Upto.le_true Upto.le_add Upto.lt_add
theorem tBytes : ElemT Try.prog 22 5 (.int .u8 0) 1 1 := ElemT.mk' Try.underlying22 (by kernel_rfl) rfl (by omega)

/-- A number's groups, the lowest first. -/
def grp (n : Nat) : List UInt8 := if h : n < 128 then [UInt8.ofNat n] else UInt8.ofNat (n % 128 + 128) :: grp (n / 128)
termination_by n
decreasing_by omega
theorem grp_small {n : Nat} (h : n < 128) : grp n = [UInt8.ofNat n] := by rw [grp, dif_pos h]
theorem grp_great {n : Nat} (h : ¬ n < 128) : grp n = UInt8.ofNat (n % 128 + 128) :: grp (n / 128) := by rw [grp, dif_neg h]
theorem grp_le : ∀ (k n : Nat), n < 128 ^ (k + 1) → (grp n).length ≤ k + 1
  | 0, n, h => by rw [grp_small (by simpa using h)]; simp
  | k + 1, n, h => by
    by_cases hn : n < 128
    · rw [grp_small hn]; simp
    · rw [grp_great hn]
      have := grp_le k (n / 128) (by rw [Nat.div_lt_iff_lt_mul (by omega)]; rw [Nat.pow_succ] at h; exact h)
      simp; omega
theorem grp_ten {n : Nat} (h : n < 18446744073709551616) : (grp n).length ≤ 10 := grp_le 9 n (Nat.lt_of_lt_of_le h (by decide))

theorem u8_of (k : Nat) (h : k < 256) : ((UInt8.ofNat k).toNat : Int) = k := by simp; omega
theorem bs_u8 (k : Nat) (x : Int) (h : k < 256) (e : x = k) : [Value.int .u8 x] = bs [UInt8.ofNat k] := by simp only [bs, List.map_cons, List.map_nil, u8_of k h, e]
/-- The place of a number among those of both signs. -/
def zz (n : Int) : Int := if n < 0 then 2 * (-1 - n) + 1 else 2 * n
theorem zz_in {n : Int} (h : -9223372036854775808 ≤ n ∧ n ≤ 9223372036854775807) : 0 ≤ zz n ∧ zz n ≤ 18446744073709551615 := by unfold zz; split <;> omega
theorem own_lit (w W : World) (b : UInt8) (x : Int) (hx : x = b.toNat) (hb : W.heap.size ≤ w.heap.size) : OwnB (w.alloc (.cells #[.int .u8 x] 5)) W.heap.size (.slice (some ⟨w.heap.size, 0, none⟩) 1 1) [b] := by
  have := World.ownsRow_lit (base := W.heap.size) (e := 5) (size := 1) w #[.int .u8 x] 1 hb (by decide) rfl
  unfold OwnB bs
  simp only [List.map_cons, List.map_nil, ← hx]
  exact this
def numB (n : Int) : List UInt8 := if n < 0 then [] else grp n.toNat
def intB (n : Int) : List UInt8 := grp (zz n).toNat
def textB (l : List UInt8) : List UInt8 := grp l.length ++ l
theorem own_nil (w : World) (B : Nat) : OwnB w B (.slice none 0 0) [] := World.ownsRow_nil _ _ _ _
theorem OwnB.base {w : World} {B B' : Nat} {v : Value} {l : List UInt8} (h : OwnB w B v l) (hb : B' ≤ B) : OwnB w B' v l := ⟨h.1, h.2.imp id fun ⟨g, cap, cur, e, hg, r⟩ => ⟨g, cap, cur, e, by omega, r⟩⟩

theorem text_own {w : World} {B : Nat} {v : Value} {s : ByteArray} (h : OwnB w B v (numB (s.size : Int))) : OwnB w B v (grp s.size) := by
  unfold numB at h; rw [if_neg (by omega)] at h; simpa using h
theorem size_list (s : ByteArray) : s.data.toList.length = s.size := by rw [Array.length_toList]; rfl
theorem text_app {w : World} {B : Nat} {v : Value} {s : ByteArray} (h : w.ownsRow B 5 1 v ((grp s.size).length + s.size) (bs (grp s.size) ++ bs s.data.toList)) : OwnB w B v (textB s.data.toList) := by
  unfold OwnB textB
  rw [size_list, List.length_append, size_list, bs_append]
  exact h
end Go.Proofs.Ytgjdgejljkhnlaa
