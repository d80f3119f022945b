/-
  A helper of ours: no claim of its own. Layer 5 (value): how a value stands to another, on both sides.
-/
import Derived.Test.YtkfdkjjocdbolaaValA
set_option linter.unusedVariables false
set_option linter.unusedSimpArgs false
namespace Go.Proofs.Ytkfdkjjocdbolaa
open Go.RowKit
attribute [local go_sem] GW.cell GW.frozen In.eq_true In.le_true In.ne In.ne' In.ne_add In.ne_add' In.lt_add Upto.le_true Upto.le_add Upto.lt_add
/-- What innerOf makes of a value. -/
abbrev iNum (n : Int) : Value := .iface 141 (.int .i64 n)
abbrev iText (s : ByteArray) : Value := .iface 142 (.string s)
theorem as_nn (m : Int) (w : World) : (Instr.typeAssert (.iface 141 (.int .i64 m)) 136 141 true).run Try.prog w = .ok (.tuple #[.int .i64 m, .bool true]) w := by kernel_rfl
theorem as_nt (s : ByteArray) (w : World) : (Instr.typeAssert (.iface 142 (.string s)) 136 141 true).run Try.prog w = .ok (.tuple #[.int .i64 0, .bool false]) w := by kernel_rfl
theorem as_tt (s : ByteArray) (w : World) : (Instr.typeAssert (.iface 142 (.string s)) 136 142 true).run Try.prog w = .ok (.tuple #[.string s, .bool true]) w := by kernel_rfl
theorem as_tn (m : Int) (w : World) : (Instr.typeAssert (.iface 141 (.int .i64 m)) 136 142 true).run Try.prog w = .ok (.tuple #[.string ⟨#[]⟩, .bool false]) w := by kernel_rfl
theorem as_n (m : Int) (w : World) : (Instr.typeAssert (.iface 141 (.int .i64 m)) 136 141 false).run Try.prog w = .ok (.int .i64 m) w := by kernel_rfl
theorem as_t (s : ByteArray) (w : World) : (Instr.typeAssert (.iface 142 (.string s)) 136 142 false).run Try.prog w = .ok (.string s) w := by kernel_rfl
theorem inner_some {k n : Int} {s : ByteArray} (h : mayB k n s = true) : ∃ v, ∀ w, Calls Try.prog 95 #[val k n s] w fun e w' => e = .returned (.tuple #[v, .bool true]) ∧ Ext w w' := by
  rcases may_cases (k := k) (n := n) (s := s) with ⟨rfl, h'⟩ | ⟨rfl, rfl, h'⟩ | ⟨hm, _⟩
  · exact ⟨_, fun w => inner_num n s h' w⟩
  · exact ⟨_, fun w => inner_text s h' w⟩
  · rw [h] at hm; cases hm
theorem inner_no {k n : Int} {s : ByteArray} (h : mayB k n s = false) (w : World) : Calls Try.prog 95 #[val k n s] w fun e w' => e = .returned (.tuple #[.nilIface, .bool false]) ∧ Ext w w' := by
  rcases may_cases (k := k) (n := n) (s := s) with ⟨rfl, h'⟩ | ⟨rfl, rfl, h'⟩ | ⟨_, h'⟩
  · rw [may_num h'] at h; cases h
  · rw [may_text h'] at h; cases h
  · exact inner_none k n s h' w
end Go.Proofs.Ytkfdkjjocdbolaa
