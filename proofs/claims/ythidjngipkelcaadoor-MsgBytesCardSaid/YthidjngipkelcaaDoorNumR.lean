/-
  A helper of ours: no claim of its own. Layer 1 (num): reading numbers.
-/
import Derived.Test.YthidjngipkelcaaDoorNumB
import Derived.Test.YthidjngipkelcaaDoorNumS
import Derived.Lib.IndexBytes
import Derived.WalkSpells
import Derived.Lib.ConvBytes
set_option linter.unusedVariables false
set_option linter.unusedSimpArgs false
namespace Go.Proofs.YthidjngipkelcaaDoor
open Go.RowKit
attribute [local go_sem] GW.cell GW.frozen In.eq_true In.le_true In.ne In.ne' In.ne_add In.ne_add' In.lt_add Upto.le_true Upto.le_add Upto.lt_add okF_true okF_false ovE_true ovE_false

theorem digsB_take (l : List UInt8) (k : Nat) : (∀ j c, j < k → l[j]? = some c → isDig c) → digsB (l.take k) = true := by
  intro h
  unfold digsB
  rw [List.all_eq_true]
  intro c hc
  obtain ⟨j, hj⟩ := List.getElem?_of_mem hc
  rw [List.getElem?_take] at hj
  split at hj
  · exact decide_eq_true (h j c (by assumption) hj)
  · cases hj
theorem digsB_no {l : List UInt8} {k : Nat} {c : UInt8} (h : l[k]? = some c) (hc : ¬ isDig c) : digsB l = false := by
  unfold digsB
  cases e : l.all fun c => decide (isDig c)
  · rfl
  · have := List.all_eq_true.1 e c (List.mem_of_getElem? h)
    exact absurd (of_decide_eq_true this) hc
theorem empty_iff (s : ByteArray) : s.toList.isEmpty = decide (s.size = 0) := by
  rw [Lib.toList_data, Bool.eq_iff_iff, List.isEmpty_iff, decide_eq_true_iff, ← List.length_eq_zero_iff, Array.length_toList]
  exact Iff.rfl
/-- The library's error of size stands in its variable. -/
def ErrR (w : World) : Prop := ∃ tp p, w.var? Tryd.prog "strconv.ErrRange" = some #[.iface tp p]
theorem readV_no {l : List UInt8} (h : readE l ≠ 0) : readV l = 0 := by unfold readV; rw [if_neg h]
theorem bytesWorld_ext (w : World) (e : TypeId) (t : ByteArray) : Ext w (Lib.bytesWorld w e t) := by
  refine ⟨rfl, rfl, rfl, ?_, fun k hk => Lib.bytesWorld_at_old w e t k hk⟩
  have : (Lib.bytesWorld w e t).heap.size = w.heap.size + 1 := by
    unfold Lib.bytesWorld World.freeze
    rw [if_neg (by decide)]
    show Array.size (Array.modify _ _ _) = _
    rw [Array.size_modify]
    exact Array.size_push ..
  omega
end Go.Proofs.YthidjngipkelcaaDoor
