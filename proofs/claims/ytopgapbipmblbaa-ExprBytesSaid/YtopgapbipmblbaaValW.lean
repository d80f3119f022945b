/-
  A helper of ours: no claim of its own. Layer 5 (value): a value's bytes, on both sides.
-/
import Derived.Test.YtopgapbipmblbaaValA
import Derived.Test.YtopgapbipmblbaaBinA
import Derived.Test.YtopgapbipmblbaaBinP
set_option linter.unusedVariables false
set_option linter.unusedSimpArgs false
namespace Go.Proofs.Ytopgapbipmblbaa
open Go.RowKit
attribute [local go_sem] GW.cell GW.frozen In.eq_true In.le_true In.ne In.ne' In.ne_add In.ne_add' In.lt_add Upto.le_true Upto.le_add Upto.lt_add
/-- A value's bytes. -/
def valB (a : Vl) : List UInt8 := if may a then (if a.1 = 1 then 1 :: intB a.2.1 else 2 :: textB a.2.2.data.toList) else []
theorem intB_len {n : Int} (h : -9223372036854775808 ≤ n ∧ n ≤ 9223372036854775807) : (intB n).length ≤ 10 := grb_ten (by have := zz_in h; omega)
theorem textB_len {s : ByteArray} (h : s.size ≤ 64) : (textB s.data.toList).length ≤ 74 := by
  unfold textB
  rw [List.length_append, size_list]
  have := grb_ten (n := s.size) (by omega); omega
end Go.Proofs.Ytopgapbipmblbaa
