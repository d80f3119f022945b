/-
  A helper of ours: no claim of its own. Layer 17 (expr): what a word takes, and what is one, on both sides.
-/
import Derived.Test.YtljkneajdndgjabGreatValB
import Derived.WalkSmall
import Derived.Test.YtljkneajdndgjabGreatSchS
import Derived.Test.YtljkneajdndgjabGreatRowA
import Derived.BigQuiet
set_option linter.unusedVariables false
set_option linter.unusedSimpArgs false
namespace Go.Proofs.YtljkneajdndgjabGreat
open Go.RowKit
attribute [local go_sem] GW.cell GW.frozen In.eq_true In.le_true In.ne In.ne' In.ne_add In.ne_add' In.lt_add Upto.le_true Upto.le_add Upto.lt_add
/-- A panic with an error's number. -/
abbrev pnc (c : Int) : Ending := .panicked [{ v := .iface 27 (.int .i64 c), recovered := false }]
abbrev rN (n : Int) : Value := .iface 201 (.int .i64 n)
abbrev rT (s : ByteArray) : Value := .iface 202 (.string s)
theorem seq_pn {P : Program} {f : FuncId} {args : Array Value} {w : World} {v : Ending} {R : Ending → World → Prop} (h : Calls P f args w fun e w' => e = v ∧ Ext w w')
    (hr : ∀ g : GW w, R v g.val) : Calls P f args w R :=
  h.mono fun _ w' ⟨he, hm⟩ => by subst he; exact hr ⟨w', hm⟩
theorem ra_nn (m : Int) (w : World) : (Instr.typeAssert (.iface 201 (.int .i64 m)) 117 201 true).run Tryz.prog w = .ok (.tuple #[.int .i64 m, .bool true]) w := by kernel_rfl
theorem ra_nt (s : ByteArray) (w : World) : (Instr.typeAssert (.iface 202 (.string s)) 117 201 true).run Tryz.prog w = .ok (.tuple #[.int .i64 0, .bool false]) w := by kernel_rfl
theorem ra_tt (s : ByteArray) (w : World) : (Instr.typeAssert (.iface 202 (.string s)) 117 202 true).run Tryz.prog w = .ok (.tuple #[.string s, .bool true]) w := by kernel_rfl
theorem ra_tn (m : Int) (w : World) : (Instr.typeAssert (.iface 201 (.int .i64 m)) 117 202 true).run Tryz.prog w = .ok (.tuple #[.string ⟨#[]⟩, .bool false]) w := by kernel_rfl
set_option maxHeartbeats 1000000 in
theorem numOf_ok (n : Int) (w : World) : Calls Tryz.prog 193 #[rN n] w fun e w' => e = .returned (.int .i64 n) ∧ Ext w w' := by
  have h := ra_nn n
  go_enter Tryz.func193, Tryz.ntmps193
  go_wp2_with fail
  go_returns
  exact ⟨rfl, Ext.refl w⟩
set_option maxHeartbeats 1000000 in
theorem numOf_no (s : ByteArray) (w : World) : Calls Tryz.prog 193 #[rT s] w fun e w' => e = pnc 12 ∧ Ext w w' := by
  have h := ra_nt s
  go_enter Tryz.func193, Tryz.ntmps193
  go_wp2_with fail
  exact ⟨rfl, rfl, Ext.refl w⟩
set_option maxHeartbeats 1000000 in
theorem textOf_ok (s : ByteArray) (w : World) : Calls Tryz.prog 191 #[rT s] w fun e w' => e = .returned (.string s) ∧ Ext w w' := by
  have h := ra_tt s
  go_enter Tryz.func191, Tryz.ntmps191
  go_wp2_with fail
  go_returns
  exact ⟨rfl, Ext.refl w⟩
set_option maxHeartbeats 1000000 in
theorem textOf_no (n : Int) (w : World) : Calls Tryz.prog 191 #[rN n] w fun e w' => e = pnc 12 ∧ Ext w w' := by
  have h := ra_tn n
  go_enter Tryz.func191, Tryz.ntmps191
  go_wp2_with fail
  exact ⟨rfl, rfl, Ext.refl w⟩
set_option maxHeartbeats 1000000 in
theorem exact_ok (n : Int) (w : World) : Calls Tryz.prog 194 #[.int .i64 n, .int .i64 0] w fun e w' => e = .returned (.int .i64 n) ∧ Ext w w' := by
  go_enter Tryz.func194, Tryz.ntmps194
  go_wp2_with fail
  go_returns
  exact ⟨rfl, Ext.refl w⟩
set_option maxHeartbeats 1000000 in
theorem exact_no (n c : Int) (h : c ≠ 0) (w : World) : Calls Tryz.prog 194 #[.int .i64 n, .int .i64 c] w fun e w' => e = pnc c ∧ Ext w w' := by
  have hc : (c != 0) = true := by rw [bne_iff_ne]; exact h
  clear h
  go_enter Tryz.func194, Tryz.ntmps194
  go_wp2_with fail
  exact ⟨rfl, rfl, Ext.refl w⟩
set_option maxHeartbeats 1000000 in
theorem truth_c (b : Bool) (w : World) : Calls Tryz.prog 192 #[.bool b] w fun e w' => e = .returned (.int .i64 (if b then 1 else 0)) ∧ Ext w w' := by
  cases b
  · go_enter Tryz.func192, Tryz.ntmps192
    go_wp2_with fail
    go_returns
    exact ⟨rfl, Ext.refl w⟩
  · go_enter Tryz.func192, Tryz.ntmps192
    go_wp2_with fail
    go_returns
    exact ⟨rfl, Ext.refl w⟩
set_option maxHeartbeats 1000000 in
theorem cat_ok (s t : ByteArray) (hs : s.size ≤ 64) (ht : t.size ≤ 64) (h : s.size + t.size ≤ 64) (w : World) : Calls Tryz.prog 196 #[.string s, .string t] w fun e w' => e = .returned (.string (s ++ t)) ∧ Ext w w' := by
  have hI : ¬ (64 : Int) - (t.size : Int) < (s.size : Int) := by omega
  have htI : (t.size : Int) ≤ 64 := by omega
  go_enter Tryz.func196, Tryz.ntmps196
  go_wp2_with fail
  go_returns
  exact ⟨rfl, Ext.refl w⟩
set_option maxHeartbeats 1000000 in
theorem cat_no (s t : ByteArray) (hs : s.size ≤ 64) (ht : t.size ≤ 64) (h : 64 < s.size + t.size) (w : World) : Calls Tryz.prog 196 #[.string s, .string t] w fun e w' => e = pnc 6 ∧ Ext w w' := by
  have hI : (64 : Int) - (t.size : Int) < (s.size : Int) := by omega
  have htI : (t.size : Int) ≤ 64 := by omega
  go_enter Tryz.func196, Tryz.ntmps196
  go_wp2_with fail
  exact ⟨rfl, rfl, Ext.refl w⟩
set_option maxHeartbeats 1000000 in
theorem nval_c (n : Int) (w : World) : Calls Tryz.prog 225 #[.int .i64 n] w fun e w' => e = .returned (val 1 n ⟨#[]⟩) ∧ Ext w w' := by
  have h := hide (fun w => vnum_c n w)
  go_enter Tryz.func225, Tryz.ntmps225
  go_wp2_with (go_at_call 226; (with_reducible refine seq_gw (h.out _) ?_); intro g)
  go_returns
  exact ⟨rfl, (((((Ext.refl w).alloc _).trans g.grown).setCell (p := ⟨w.heap.size, 0, none⟩) (Nat.le_refl _) _).setCell (p := ⟨w.heap.size, 1, none⟩) (Nat.le_refl _) _).setCell (p := ⟨w.heap.size, 2, none⟩) (Nat.le_refl _) _⟩
set_option maxHeartbeats 1000000 in
theorem tval_c (s : ByteArray) (hs : s.size ≤ 64) (w : World) : Calls Tryz.prog 228 #[.string s] w fun e w' => e = .returned (val 2 0 s) ∧ Ext w w' := by
  have h := hide (fun w => vtext_ok s hs w)
  go_enter Tryz.func228, Tryz.ntmps228
  go_wp2_with (go_at_call 229; (with_reducible refine seq_gw (h.out _) ?_); intro g)
  go_returns
  exact ⟨rfl, ((((((Ext.refl w).alloc _).trans g.grown).setCell (p := ⟨w.heap.size, 0, none⟩) (Nat.le_refl _) _).setCell (p := ⟨w.heap.size, 1, none⟩) (Nat.le_refl _) _).setCell (p := ⟨w.heap.size, 2, none⟩) (Nat.le_refl _) _).alloc _⟩
end Go.Proofs.YtljkneajdndgjabGreat
set_option linter.unusedVariables false
set_option linter.unusedSimpArgs false
namespace Go.Proofs.YtljkneajdndgjabGreat
open Go.RowKit
attribute [local go_sem] GW.cell GW.frozen In.eq_true In.le_true In.ne In.ne' In.ne_add In.ne_add' In.lt_add Upto.le_true Upto.le_add Upto.lt_add
theorem code_cases (c : Int) : (c < 1 ∧ tkI c = -1) ∨ (1 ≤ c ∧ c ≤ 3 ∧ tkI c = 0) ∨ (4 ≤ c ∧ c ≤ 6 ∧ tkI c = 1) ∨ (7 ≤ c ∧ c ≤ 20 ∧ tkI c = 2) ∨ (20 < c ∧ tkI c = -1) := by
  rcases tkI_cases c with e | e | e | e
  · rcases tkI_neg.1 e with h | h
    · exact .inl ⟨h, e⟩
    · exact .inr (.inr (.inr (.inr ⟨h, e⟩)))
  · exact .inr (.inl ⟨(tkI_iff0.1 e).1, (tkI_iff0.1 e).2, e⟩)
  · exact .inr (.inr (.inl ⟨(tkI_iff1.1 e).1, (tkI_iff1.1 e).2, e⟩))
  · exact .inr (.inr (.inr (.inl ⟨(tkI_iff2.1 e).1, (tkI_iff2.1 e).2, e⟩)))
set_option maxHeartbeats 1000000 in
theorem takes_c (c : Int) (w : World) : Calls Tryz.prog 67 #[.int .i64 c] w fun e w' => e = .returned (.int .i64 (tkI c)) ∧ Ext w w' := by
  rcases code_cases c with ⟨h, e⟩ | ⟨h, h', e⟩ | ⟨h, h', e⟩ | ⟨h, h', e⟩ | ⟨h, e⟩ <;> rw [e] <;> clear e
  · have a1 : decide ((1 : Int) ≤ c) = false := by rw [decide_eq_false_iff_not]; omega
    have a2 : decide ((4 : Int) ≤ c) = false := by rw [decide_eq_false_iff_not]; omega
    have a3 : decide ((7 : Int) ≤ c) = false := by rw [decide_eq_false_iff_not]; omega
    clear h
    go_enter Tryz.func67, Tryz.ntmps67
    go_wp2_with fail
    go_returns
    exact ⟨rfl, Ext.refl w⟩
  · go_enter Tryz.func67, Tryz.ntmps67
    go_wp2_with fail
    go_returns
    exact ⟨rfl, Ext.refl w⟩
  · have a1 : (1 : Int) ≤ c := by omega
    have b1 : decide (c ≤ 3) = false := by rw [decide_eq_false_iff_not]; omega
    go_enter Tryz.func67, Tryz.ntmps67
    go_wp2_with fail
    go_returns
    exact ⟨rfl, Ext.refl w⟩
  · have a1 : (1 : Int) ≤ c := by omega
    have a2 : (4 : Int) ≤ c := by omega
    have b1 : decide (c ≤ 3) = false := by rw [decide_eq_false_iff_not]; omega
    have b2 : decide (c ≤ 6) = false := by rw [decide_eq_false_iff_not]; omega
    go_enter Tryz.func67, Tryz.ntmps67
    go_wp2_with fail
    go_returns
    exact ⟨rfl, Ext.refl w⟩
  · have a1 : (1 : Int) ≤ c := by omega
    have a2 : (4 : Int) ≤ c := by omega
    have a3 : (7 : Int) ≤ c := by omega
    have b1 : decide (c ≤ 3) = false := by rw [decide_eq_false_iff_not]; omega
    have b2 : decide (c ≤ 6) = false := by rw [decide_eq_false_iff_not]; omega
    have b3 : decide (c ≤ 20) = false := by rw [decide_eq_false_iff_not]; omega
    clear h
    go_enter Tryz.func67, Tryz.ntmps67
    go_wp2_with fail
    go_returns
    exact ⟨rfl, Ext.refl w⟩
theorem okW_1 (n : Int) (s : ByteArray) : okW (1, n, s) = decide (s.size = 0) := rfl
theorem okW_2 (n : Int) (s : ByteArray) : okW (2, n, s) = (decide (n = 0) && decide (s.size ≤ 64)) := rfl
theorem okW_3 (n : Int) (s : ByteArray) : okW (3, n, s) = (decide (0 ≤ n ∧ n < 8) && decide (s.size = 0)) := rfl
theorem okW_else {c : Int} (h1 : c ≠ 1) (h2 : c ≠ 2) (h3 : c ≠ 3) (n : Int) (s : ByteArray) : okW (c, n, s) = (decide (0 ≤ tkI c) && (decide (n = 0) && decide (s.size = 0))) := by
  unfold okW; rw [if_neg h1, if_neg h2, if_neg h3]
set_option maxHeartbeats 4000000 in
theorem wordMay_c (c n : Int) (s : ByteArray) (w : World) : Calls Tryz.prog 66 #[val c n s] w fun e w' => e = .returned (.bool (okW (c, n, s))) ∧ Ext w w' := by
  have key : ∀ b, okW (c, n, s) = b → Calls Tryz.prog 66 #[val c n s] w fun e w' => e = .returned (.bool b) ∧ Ext w w' := by
    intro b hb
    by_cases c1 : c = 1
    · subst c1
      rw [okW_1] at hb
      by_cases h : s.size = 0
      · rw [decide_eq_true h] at hb; subst hb
        have he := empty_yes h
        go_enter Tryz.func66, Tryz.ntmps66
        go_wp2_with fail
        go_returns
        exact ⟨rfl, (Ext.refl w).alloc _⟩
      · rw [decide_eq_false h] at hb; subst hb
        have he := empty_no h
        go_enter Tryz.func66, Tryz.ntmps66
        go_wp2_with fail
        go_returns
        exact ⟨rfl, (Ext.refl w).alloc _⟩
    by_cases c2 : c = 2
    · subst c2
      rw [okW_2] at hb
      by_cases h0 : n = 0
      · subst h0
        by_cases h : s.size ≤ 64
        · rw [decide_eq_true h] at hb; replace hb : true = b := hb; subst hb
          have hi : (s.size : Int) ≤ 64 := by omega
          go_enter Tryz.func66, Tryz.ntmps66
          go_wp2_with fail
          go_returns
          exact ⟨rfl, (Ext.refl w).alloc _⟩
        · rw [decide_eq_false h] at hb; replace hb : false = b := hb; subst hb
          have hi : decide ((s.size : Int) ≤ 64) = false := by rw [decide_eq_false_iff_not]; omega
          go_enter Tryz.func66, Tryz.ntmps66
          go_wp2_with fail
          go_returns
          exact ⟨rfl, (Ext.refl w).alloc _⟩
      · rw [decide_eq_false h0, Bool.false_and] at hb; subst hb
        have e1 : (n == 0) = false := by simpa using h0
        clear h0
        go_enter Tryz.func66, Tryz.ntmps66
        go_wp2_with fail
        go_returns
        exact ⟨rfl, (Ext.refl w).alloc _⟩
    by_cases c3 : c = 3
    · subst c3
      rw [okW_3] at hb
      by_cases h0 : 0 ≤ n
      · by_cases h8 : n < 8
        · rw [decide_eq_true ⟨h0, h8⟩, Bool.true_and] at hb
          by_cases h : s.size = 0
          · rw [decide_eq_true h] at hb; subst hb
            have he := empty_yes h
            go_enter Tryz.func66, Tryz.ntmps66
            go_wp2_with fail
            go_returns
            exact ⟨rfl, (Ext.refl w).alloc _⟩
          · rw [decide_eq_false h] at hb; subst hb
            have he := empty_no h
            go_enter Tryz.func66, Tryz.ntmps66
            go_wp2_with fail
            go_returns
            exact ⟨rfl, (Ext.refl w).alloc _⟩
        · rw [decide_eq_false (fun h => h8 h.2), Bool.false_and] at hb; subst hb
          have e8 : decide (n < 8) = false := decide_eq_false h8
          clear h8
          go_enter Tryz.func66, Tryz.ntmps66
          go_wp2_with fail
          go_returns
          exact ⟨rfl, (Ext.refl w).alloc _⟩
      · rw [decide_eq_false (fun h => h0 h.1), Bool.false_and] at hb; subst hb
        have e8 : decide (0 ≤ n) = false := decide_eq_false h0
        clear h0
        go_enter Tryz.func66, Tryz.ntmps66
        go_wp2_with fail
        go_returns
        exact ⟨rfl, (Ext.refl w).alloc _⟩
    · rw [okW_else c1 c2 c3] at hb
      have ht := hide (fun w => takes_c c w)
      generalize tkI c = t at *
      have e1 : (c == 1) = false := by simpa using c1
      have e2 : (c == 2) = false := by simpa using c2
      have e3 : (c == 3) = false := by simpa using c3
      clear c1 c2 c3
      by_cases h0 : 0 ≤ t
      · rw [decide_eq_true h0, Bool.true_and] at hb
        by_cases hn : n = 0
        · subst hn
          rw [decide_eq_true rfl, Bool.true_and] at hb
          by_cases h : s.size = 0
          · rw [decide_eq_true h] at hb; subst hb
            have he := empty_yes h
            go_enter Tryz.func66, Tryz.ntmps66
            go_wp2_with (go_at_call 67; (with_reducible refine seq_gw (ht.out _) ?_); intro g)
            go_returns
            exact ⟨rfl, ((Ext.refl w).alloc _).trans g.grown⟩
          · rw [decide_eq_false h] at hb; subst hb
            have he := empty_no h
            go_enter Tryz.func66, Tryz.ntmps66
            go_wp2_with (go_at_call 67; (with_reducible refine seq_gw (ht.out _) ?_); intro g)
            go_returns
            exact ⟨rfl, ((Ext.refl w).alloc _).trans g.grown⟩
        · rw [decide_eq_false hn, Bool.false_and] at hb; subst hb
          have en : (n == 0) = false := by simpa using hn
          clear hn
          go_enter Tryz.func66, Tryz.ntmps66
          go_wp2_with (go_at_call 67; (with_reducible refine seq_gw (ht.out _) ?_); intro g)
          go_returns
          exact ⟨rfl, ((Ext.refl w).alloc _).trans g.grown⟩
      · rw [decide_eq_false h0, Bool.false_and] at hb; subst hb
        have et : decide (0 ≤ t) = false := decide_eq_false h0
        clear h0
        go_enter Tryz.func66, Tryz.ntmps66
        go_wp2_with (go_at_call 67; (with_reducible refine seq_gw (ht.out _) ?_); intro g)
        go_returns
        exact ⟨rfl, ((Ext.refl w).alloc _).trans g.grown⟩
  exact key _ rfl
end Go.Proofs.YtljkneajdndgjabGreat
