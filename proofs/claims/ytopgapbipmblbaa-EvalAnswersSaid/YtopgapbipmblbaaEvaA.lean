/-
  A helper of ours: no claim of its own. Layer 18 (eval): numbers and texts behind an interface; what is none of them panics with its error.
-/
import Derived.Test.YtopgapbipmblbaaEvlS
import Derived.Test.YtopgapbipmblbaaValB
import Derived.WalkSmall
set_option linter.unusedVariables false
set_option linter.unusedSimpArgs false
namespace Go.Proofs.Ytopgapbipmblbaa
open Go.RowKit
attribute [local go_sem] GW.cell GW.frozen In.eq_true In.le_true In.ne In.ne' In.ne_add In.ne_add' In.lt_add Upto.le_true Upto.le_add Upto.lt_add
/-- A panic with an error's number. -/
abbrev pnc (c : Int) : Ending := .panicked [{ v := .iface 27 (.int .i64 c), recovered := false }]
abbrev rN (n : Int) : Value := .iface 134 (.int .i64 n)
abbrev rT (s : ByteArray) : Value := .iface 135 (.string s)
theorem seq_pn {P : Program} {f : FuncId} {args : Array Value} {w : World} {v : Ending} {R : Ending → World → Prop} (h : Calls P f args w fun e w' => e = v ∧ Ext w w')
    (hr : ∀ g : GW w, R v g.val) : Calls P f args w R :=
  h.mono fun _ w' ⟨he, hm⟩ => by subst he; exact hr ⟨w', hm⟩
theorem ra_nn (m : Int) (w : World) : (Instr.typeAssert (.iface 134 (.int .i64 m)) 76 134 true).run Try.prog w = .ok (.tuple #[.int .i64 m, .bool true]) w := by kernel_rfl
theorem ra_nt (s : ByteArray) (w : World) : (Instr.typeAssert (.iface 135 (.string s)) 76 134 true).run Try.prog w = .ok (.tuple #[.int .i64 0, .bool false]) w := by kernel_rfl
theorem ra_tt (s : ByteArray) (w : World) : (Instr.typeAssert (.iface 135 (.string s)) 76 135 true).run Try.prog w = .ok (.tuple #[.string s, .bool true]) w := by kernel_rfl
theorem ra_tn (m : Int) (w : World) : (Instr.typeAssert (.iface 134 (.int .i64 m)) 76 135 true).run Try.prog w = .ok (.tuple #[.string ⟨#[]⟩, .bool false]) w := by kernel_rfl
set_option maxHeartbeats 1000000 in
theorem numOf_ok (n : Int) (w : World) : Calls Try.prog 101 #[rN n] w fun e w' => e = .returned (.int .i64 n) ∧ Ext w w' := by
  have h := ra_nn n
  go_enter Try.func101, Try.ntmps101
  go_wp2_with fail
  go_returns
  exact ⟨rfl, Ext.refl w⟩
set_option maxHeartbeats 1000000 in
theorem numOf_no (s : ByteArray) (w : World) : Calls Try.prog 101 #[rT s] w fun e w' => e = pnc 12 ∧ Ext w w' := by
  have h := ra_nt s
  go_enter Try.func101, Try.ntmps101
  go_wp2_with fail
  exact ⟨rfl, rfl, Ext.refl w⟩
set_option maxHeartbeats 1000000 in
theorem textOf_ok (s : ByteArray) (w : World) : Calls Try.prog 99 #[rT s] w fun e w' => e = .returned (.string s) ∧ Ext w w' := by
  have h := ra_tt s
  go_enter Try.func99, Try.ntmps99
  go_wp2_with fail
  go_returns
  exact ⟨rfl, Ext.refl w⟩
set_option maxHeartbeats 1000000 in
theorem textOf_no (n : Int) (w : World) : Calls Try.prog 99 #[rN n] w fun e w' => e = pnc 12 ∧ Ext w w' := by
  have h := ra_tn n
  go_enter Try.func99, Try.ntmps99
  go_wp2_with fail
  exact ⟨rfl, rfl, Ext.refl w⟩
set_option maxHeartbeats 1000000 in
theorem exact_ok (n : Int) (w : World) : Calls Try.prog 102 #[.int .i64 n, .int .i64 0] w fun e w' => e = .returned (.int .i64 n) ∧ Ext w w' := by
  go_enter Try.func102, Try.ntmps102
  go_wp2_with fail
  go_returns
  exact ⟨rfl, Ext.refl w⟩
set_option maxHeartbeats 1000000 in
theorem exact_no (n c : Int) (h : c ≠ 0) (w : World) : Calls Try.prog 102 #[.int .i64 n, .int .i64 c] w fun e w' => e = pnc c ∧ Ext w w' := by
  have hc : (c != 0) = true := by rw [bne_iff_ne]; exact h
  clear h
  go_enter Try.func102, Try.ntmps102
  go_wp2_with fail
  exact ⟨rfl, rfl, Ext.refl w⟩
set_option maxHeartbeats 1000000 in
theorem truth_c (b : Bool) (w : World) : Calls Try.prog 100 #[.bool b] w fun e w' => e = .returned (.int .i64 (if b then 1 else 0)) ∧ Ext w w' := by
  cases b
  · go_enter Try.func100, Try.ntmps100
    go_wp2_with fail
    go_returns
    exact ⟨rfl, Ext.refl w⟩
  · go_enter Try.func100, Try.ntmps100
    go_wp2_with fail
    go_returns
    exact ⟨rfl, Ext.refl w⟩
set_option maxHeartbeats 1000000 in
theorem cat_ok (s t : ByteArray) (hs : s.size ≤ 64) (ht : t.size ≤ 64) (h : s.size + t.size ≤ 64) (w : World) : Calls Try.prog 104 #[.string s, .string t] w fun e w' => e = .returned (.string (s ++ t)) ∧ Ext w w' := by
  have hI : ¬ (64 : Int) - (t.size : Int) < (s.size : Int) := by omega
  have htI : (t.size : Int) ≤ 64 := by omega
  go_enter Try.func104, Try.ntmps104
  go_wp2_with fail
  go_returns
  exact ⟨rfl, Ext.refl w⟩
set_option maxHeartbeats 1000000 in
theorem cat_no (s t : ByteArray) (hs : s.size ≤ 64) (ht : t.size ≤ 64) (h : 64 < s.size + t.size) (w : World) : Calls Try.prog 104 #[.string s, .string t] w fun e w' => e = pnc 6 ∧ Ext w w' := by
  have hI : (64 : Int) - (t.size : Int) < (s.size : Int) := by omega
  have htI : (t.size : Int) ≤ 64 := by omega
  go_enter Try.func104, Try.ntmps104
  go_wp2_with fail
  exact ⟨rfl, rfl, Ext.refl w⟩
set_option maxHeartbeats 1000000 in
theorem nval_c (n : Int) (w : World) : Calls Try.prog 134 #[.int .i64 n] w fun e w' => e = .returned (val 1 n ⟨#[]⟩) ∧ Ext w w' := by
  have h := hide (fun w => vnum_c n w)
  go_enter Try.func134, Try.ntmps134
  go_wp2_with (go_at_call 136; (with_reducible refine seq_gw (h.out _) ?_); intro g)
  go_returns
  exact ⟨rfl, (((((Ext.refl w).alloc _).trans g.grown).setCell (p := ⟨w.heap.size, 0, none⟩) (Nat.le_refl _) _).setCell (p := ⟨w.heap.size, 1, none⟩) (Nat.le_refl _) _).setCell (p := ⟨w.heap.size, 2, none⟩) (Nat.le_refl _) _⟩
set_option maxHeartbeats 1000000 in
theorem tval_c (s : ByteArray) (hs : s.size ≤ 64) (w : World) : Calls Try.prog 138 #[.string s] w fun e w' => e = .returned (val 2 0 s) ∧ Ext w w' := by
  have h := hide (fun w => vtext_ok s hs w)
  go_enter Try.func138, Try.ntmps138
  go_wp2_with (go_at_call 139; (with_reducible refine seq_gw (h.out _) ?_); intro g)
  go_returns
  exact ⟨rfl, ((((((Ext.refl w).alloc _).trans g.grown).setCell (p := ⟨w.heap.size, 0, none⟩) (Nat.le_refl _) _).setCell (p := ⟨w.heap.size, 1, none⟩) (Nat.le_refl _) _).setCell (p := ⟨w.heap.size, 2, none⟩) (Nat.le_refl _) _).alloc _⟩
end Go.Proofs.Ytopgapbipmblbaa
