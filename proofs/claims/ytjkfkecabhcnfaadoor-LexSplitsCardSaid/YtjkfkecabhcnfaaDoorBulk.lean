/-
  A helper of ours: no claim of its own. What the bound on bulk gives of one argument.
-/
import Derived.Test.YtjkfkecabhcnfaaDoorRows
import Derived.Test.YtjkfkecabhcnfaaDoorArg
namespace Go.Proofs.YtjkfkecabhcnfaaDoor
theorem bulk_one {H : Type} (d : DataW H) : 1 ≤ Rows.uptoBulk d := by
  cases d with
  | lit l => cases l <;> simp [Rows.uptoBulk]
  | nil => simp [Rows.uptoBulk]
  | ptr d => simp [Rows.uptoBulk]
  | slice elems spare => simp [Rows.uptoBulk]
  | agg parts => simp [Rows.uptoBulk]
  | iface t d => simp [Rows.uptoBulk]
  | map entries => simp [Rows.uptoBulk]
  | held h => simp [Rows.uptoBulk]
theorem bulk_list {H : Type} : ∀ l : List (DataW H), l.length ≤ Rows.uptoBulkAll l
  | [] => by simp [Rows.uptoBulkAll]
  | x :: r => by have := bulk_one x; have := bulk_list r; simp only [Rows.uptoBulkAll, List.length_cons]; omega
theorem bulk_len {H : Type} (d : DataW H) : sliceLen d ≤ Rows.uptoBulk d := by
  cases d with
  | slice elems spare => have := bulk_list elems; simp only [sliceLen, Rows.uptoBulk]; omega
  | _ => simp [sliceLen]
end Go.Proofs.YtjkfkecabhcnfaaDoor
