/-
  A helper of ours: no claim of its own. Products and quotients of layer 1 (num), the text of a number, and what must be whatever is asked.
-/
import Derived.Test.YthidjngipkelcaaDoorNumA
import Derived.Test.YthidjngipkelcaaDoorShelf
import Derived.WalkSmall
set_option linter.unusedVariables false
set_option linter.unusedSimpArgs false
namespace Go.Proofs.YthidjngipkelcaaDoor
open Go.RowKit
attribute [local go_sem] GW.cell GW.frozen In.eq_true In.le_true In.ne In.ne' In.ne_add In.ne_add' In.lt_add Upto.le_true Upto.le_add Upto.lt_add


theorem great_pp {a b : Int} (hb : 0 < b) : (9223372036854775807 / b < a) ↔ (9223372036854775807 < a * b) := Int.ediv_lt_iff_lt_mul hb
theorem great_pn {a b : Int} (ha : 0 < a) : (b < -(9223372036854775808 / a)) ↔ (a * b < -9223372036854775808) := by
  have h := Int.ediv_lt_iff_lt_mul (a := 9223372036854775808) (b := -b) ha
  rw [Int.neg_mul, Int.mul_comm b a] at h
  omega
theorem most_neg (b : Int) : 9223372036854775807 / b = -(9223372036854775807 / (-b)) := by
  rw [Int.ediv_neg, Int.neg_neg]
theorem great_nn {a b : Int} (hb : b < 0) : (a < 9223372036854775807 / b) ↔ (9223372036854775807 < a * b) := by
  rw [most_neg]
  have h := Int.ediv_lt_iff_lt_mul (a := 9223372036854775807) (b := -a) (c := -b) (by omega)
  rw [Int.neg_mul_neg] at h
  omega
theorem quo_least {a : Int} (ha : 0 < a) : IntKind.i64.wrap (-Int.tdiv 9223372036854775808 a) = -(9223372036854775808 / a) := by
  rw [Int.tdiv_eq_ediv_of_nonneg (by omega)]
  have h1 : 0 ≤ 9223372036854775808 / a := Int.ediv_nonneg (by omega) (by omega)
  have h2 : 9223372036854775808 / a ≤ 9223372036854775808 := Int.ediv_le_self _ (by omega)
  exact IntWalk.i64_in _ (by omega)
theorem quo_most {b : Int} (hb : b < 0) : IntKind.i64.wrap (Int.tdiv 9223372036854775807 b) = 9223372036854775807 / b := by
  rw [Int.tdiv_eq_ediv_of_nonneg (by omega), most_neg]
  have h1 : 0 ≤ 9223372036854775807 / (-b) := Int.ediv_nonneg (by omega) (by omega)
  have h2 : 9223372036854775807 / (-b) ≤ 9223372036854775807 := Int.ediv_le_self _ (by omega)
  exact IntWalk.i64_in _ (by omega)
theorem wrap_not {x y c b : Int} (hc : IntKind.i64.wrap x = c) (hx : ¬ (-9223372036854775808 ≤ x ∧ x ≤ 9223372036854775807)) (hb : -9223372036854775808 ≤ b ∧ b ≤ 9223372036854775807) (hb0 : b ≠ 0) (hy : x = y * b) : ¬ c.tdiv b = y := by
  intro h
  have h1 := Int.mul_tdiv_add_tmod c b
  rw [h, Int.mul_comm b y, ← hy] at h1
  have h2 : (c.tmod b).natAbs < b.natAbs := by rw [Int.natAbs_tmod]; exact Nat.mod_lt _ (by omega)
  rw [IntKind.wrap_i64] at hc
  omega






/-- What the table of the library holds. -/
def Tab (w : World) : Prop := Lib.TabIs Tryd.prog w "internal/strconv.uint64pow10" .u64 Lib.pow10Tab
theorem Tab.ext {w w' : World} (h : Tab w) (e : Ext w w') : Tab w' :=
  have hg : Tryd.prog.globalNamed "internal/strconv.uint64pow10" = some 1 := by kernel_rfl
  var?_below e hg (World.block_lt_of_cell? _ ⟨1, 0, none⟩ (h.cell hg 0 (by decide))) h
theorem ext_grow (w : World) (k : Nat) (os : Array Obj) : Ext w (Sort.grow (w.drewN k) os) :=
  ⟨rfl, rfl, rfl, by simp [Sort.grow], fun i hi => by simp [Sort.grow, Array.getElem?_append, hi]⟩
theorem show_c (n : Int) (h : -9223372036854775808 ≤ n ∧ n ≤ 9223372036854775807) (w : World) (ht : Tab w) : Calls Tryd.prog 23 #[.int .i64 n] w fun e w' => e = .returned (.string ⟨(Lib.itoa n).toArray⟩) ∧ Ext w w' := by
  have ht' : Tab w := ht
  go_enter Tryd.func23, Tryd.ntmps23
  go_wp2_with (go_at_call 50; refine (Tryd.strconv_Itoa _ h.1 h.2 _ ht').mono ?_; rintro e w' ⟨rfl, k, os, rfl⟩)
  go_ret
  exact ⟨rfl, ext_grow w k os⟩
end Go.Proofs.YthidjngipkelcaaDoor
