/-
  A helper of ours: no claim of its own. Layer 17 (expr): what a word takes, and what is one, on both sides.
-/
import Derived.Test.YtljkneajdndgjabGreatSchS
import Derived.Test.YtljkneajdndgjabGreatRowA
import Derived.BigQuiet
set_option linter.unusedVariables false
set_option linter.unusedSimpArgs false
namespace Go.Proofs.YtljkneajdndgjabGreat
open Go.RowKit
attribute [local go_sem] GW.cell GW.frozen In.eq_true In.le_true In.ne In.ne' In.ne_add In.ne_add' In.lt_add Upto.le_true Upto.le_add Upto.lt_add
theorem code_cases (c : Int) : (c < 1 ∧ tkI c = -1) ∨ (1 ≤ c ∧ c ≤ 3 ∧ tkI c = 0) ∨ (4 ≤ c ∧ c ≤ 6 ∧ tkI c = 1) ∨ (7 ≤ c ∧ c ≤ 20 ∧ tkI c = 2) ∨ (20 < c ∧ tkI c = -1) := by
  rcases tkI_cases c with e | e | e | e
  · rcases tkI_neg.1 e with h | h
    · exact .inl ⟨h, e⟩
    · exact .inr (.inr (.inr (.inr ⟨h, e⟩)))
  · exact .inr (.inl ⟨(tkI_iff0.1 e).1, (tkI_iff0.1 e).2, e⟩)
  · exact .inr (.inr (.inl ⟨(tkI_iff1.1 e).1, (tkI_iff1.1 e).2, e⟩))
  · exact .inr (.inr (.inr (.inl ⟨(tkI_iff2.1 e).1, (tkI_iff2.1 e).2, e⟩)))
set_option maxHeartbeats 1000000 in
theorem takes_c (c : Int) (w : World) : Calls Tryz.prog 67 #[.int .i64 c] w fun e w' => e = .returned (.int .i64 (tkI c)) ∧ Ext w w' := by
  rcases code_cases c with ⟨h, e⟩ | ⟨h, h', e⟩ | ⟨h, h', e⟩ | ⟨h, h', e⟩ | ⟨h, e⟩ <;> rw [e] <;> clear e
  · have a1 : decide ((1 : Int) ≤ c) = false := by rw [decide_eq_false_iff_not]; omega
    have a2 : decide ((4 : Int) ≤ c) = false := by rw [decide_eq_false_iff_not]; omega
    have a3 : decide ((7 : Int) ≤ c) = false := by rw [decide_eq_false_iff_not]; omega
    clear h
    go_enter Tryz.func67, Tryz.ntmps67
    go_wp2_with fail
    go_returns
    exact ⟨rfl, Ext.refl w⟩
  · go_enter Tryz.func67, Tryz.ntmps67
    go_wp2_with fail
    go_returns
    exact ⟨rfl, Ext.refl w⟩
  · have a1 : (1 : Int) ≤ c := by omega
    have b1 : decide (c ≤ 3) = false := by rw [decide_eq_false_iff_not]; omega
    go_enter Tryz.func67, Tryz.ntmps67
    go_wp2_with fail
    go_returns
    exact ⟨rfl, Ext.refl w⟩
  · have a1 : (1 : Int) ≤ c := by omega
    have a2 : (4 : Int) ≤ c := by omega
    have b1 : decide (c ≤ 3) = false := by rw [decide_eq_false_iff_not]; omega
    have b2 : decide (c ≤ 6) = false := by rw [decide_eq_false_iff_not]; omega
    go_enter Tryz.func67, Tryz.ntmps67
    go_wp2_with fail
    go_returns
    exact ⟨rfl, Ext.refl w⟩
  · have a1 : (1 : Int) ≤ c := by omega
    have a2 : (4 : Int) ≤ c := by omega
    have a3 : (7 : Int) ≤ c := by omega
    have b1 : decide (c ≤ 3) = false := by rw [decide_eq_false_iff_not]; omega
    have b2 : decide (c ≤ 6) = false := by rw [decide_eq_false_iff_not]; omega
    have b3 : decide (c ≤ 20) = false := by rw [decide_eq_false_iff_not]; omega
    clear h
    go_enter Tryz.func67, Tryz.ntmps67
    go_wp2_with fail
    go_returns
    exact ⟨rfl, Ext.refl w⟩
set_option maxHeartbeats 1000000 in
theorem refTakes_c (c : Int) (w : World) : Calls Tryz.prog 129 #[.int .i64 c] w fun e w' => e = .returned (.int .i64 (tkI c)) ∧ Ext w w' := by
  rcases code_cases c with ⟨h, e⟩ | ⟨h, h', e⟩ | ⟨h, h', e⟩ | ⟨h, h', e⟩ | ⟨h, e⟩ <;> rw [e] <;> clear e
  · go_enter Tryz.func129, Tryz.ntmps129
    go_wp2_with fail
    go_returns
    exact ⟨rfl, Ext.refl w⟩
  · have a1 : decide (c < 1) = false := by rw [decide_eq_false_iff_not]; omega
    have a2 : decide (20 < c) = false := by rw [decide_eq_false_iff_not]; omega
    go_enter Tryz.func129, Tryz.ntmps129
    go_wp2_with fail
    go_returns
    exact ⟨rfl, Ext.refl w⟩
  · have a1 : decide (c < 1) = false := by rw [decide_eq_false_iff_not]; omega
    have a2 : decide (20 < c) = false := by rw [decide_eq_false_iff_not]; omega
    have a3 : ¬ c ≤ 3 := by omega
    go_enter Tryz.func129, Tryz.ntmps129
    go_wp2_with fail
    go_returns
    exact ⟨rfl, Ext.refl w⟩
  · have a1 : decide (c < 1) = false := by rw [decide_eq_false_iff_not]; omega
    have a2 : decide (20 < c) = false := by rw [decide_eq_false_iff_not]; omega
    have a3 : ¬ c ≤ 3 := by omega
    have a4 : ¬ c ≤ 6 := by omega
    go_enter Tryz.func129, Tryz.ntmps129
    go_wp2_with fail
    go_returns
    exact ⟨rfl, Ext.refl w⟩
  · have a1 : decide (c < 1) = false := by rw [decide_eq_false_iff_not]; omega
    go_enter Tryz.func129, Tryz.ntmps129
    go_wp2_with fail
    go_returns
    exact ⟨rfl, Ext.refl w⟩
theorem okW_1 (n : Int) (s : ByteArray) : okW (1, n, s) = decide (s.size = 0) := rfl
theorem okW_2 (n : Int) (s : ByteArray) : okW (2, n, s) = (decide (n = 0) && decide (s.size ≤ 64)) := rfl
theorem okW_3 (n : Int) (s : ByteArray) : okW (3, n, s) = (decide (0 ≤ n ∧ n < 8) && decide (s.size = 0)) := rfl
theorem okW_else {c : Int} (h1 : c ≠ 1) (h2 : c ≠ 2) (h3 : c ≠ 3) (n : Int) (s : ByteArray) : okW (c, n, s) = (decide (0 ≤ tkI c) && (decide (n = 0) && decide (s.size = 0))) := by
  unfold okW; rw [if_neg h1, if_neg h2, if_neg h3]
set_option maxHeartbeats 4000000 in
theorem wordMay_c (c n : Int) (s : ByteArray) (w : World) : Calls Tryz.prog 66 #[val c n s] w fun e w' => e = .returned (.bool (okW (c, n, s))) ∧ Ext w w' := by
  have key : ∀ b, okW (c, n, s) = b → Calls Tryz.prog 66 #[val c n s] w fun e w' => e = .returned (.bool b) ∧ Ext w w' := by
    intro b hb
    by_cases c1 : c = 1
    · subst c1
      rw [okW_1] at hb
      by_cases h : s.size = 0
      · rw [decide_eq_true h] at hb; subst hb
        have he := empty_yes h
        go_enter Tryz.func66, Tryz.ntmps66
        go_wp2_with fail
        go_returns
        exact ⟨rfl, (Ext.refl w).alloc _⟩
      · rw [decide_eq_false h] at hb; subst hb
        have he := empty_no h
        go_enter Tryz.func66, Tryz.ntmps66
        go_wp2_with fail
        go_returns
        exact ⟨rfl, (Ext.refl w).alloc _⟩
    by_cases c2 : c = 2
    · subst c2
      rw [okW_2] at hb
      by_cases h0 : n = 0
      · subst h0
        by_cases h : s.size ≤ 64
        · rw [decide_eq_true h] at hb; replace hb : true = b := hb; subst hb
          have hi : (s.size : Int) ≤ 64 := by omega
          go_enter Tryz.func66, Tryz.ntmps66
          go_wp2_with fail
          go_returns
          exact ⟨rfl, (Ext.refl w).alloc _⟩
        · rw [decide_eq_false h] at hb; replace hb : false = b := hb; subst hb
          have hi : decide ((s.size : Int) ≤ 64) = false := by rw [decide_eq_false_iff_not]; omega
          go_enter Tryz.func66, Tryz.ntmps66
          go_wp2_with fail
          go_returns
          exact ⟨rfl, (Ext.refl w).alloc _⟩
      · rw [decide_eq_false h0, Bool.false_and] at hb; subst hb
        have e1 : (n == 0) = false := by simpa using h0
        clear h0
        go_enter Tryz.func66, Tryz.ntmps66
        go_wp2_with fail
        go_returns
        exact ⟨rfl, (Ext.refl w).alloc _⟩
    by_cases c3 : c = 3
    · subst c3
      rw [okW_3] at hb
      by_cases h0 : 0 ≤ n
      · by_cases h8 : n < 8
        · rw [decide_eq_true ⟨h0, h8⟩, Bool.true_and] at hb
          by_cases h : s.size = 0
          · rw [decide_eq_true h] at hb; subst hb
            have he := empty_yes h
            go_enter Tryz.func66, Tryz.ntmps66
            go_wp2_with fail
            go_returns
            exact ⟨rfl, (Ext.refl w).alloc _⟩
          · rw [decide_eq_false h] at hb; subst hb
            have he := empty_no h
            go_enter Tryz.func66, Tryz.ntmps66
            go_wp2_with fail
            go_returns
            exact ⟨rfl, (Ext.refl w).alloc _⟩
        · rw [decide_eq_false (fun h => h8 h.2), Bool.false_and] at hb; subst hb
          have e8 : decide (n < 8) = false := decide_eq_false h8
          clear h8
          go_enter Tryz.func66, Tryz.ntmps66
          go_wp2_with fail
          go_returns
          exact ⟨rfl, (Ext.refl w).alloc _⟩
      · rw [decide_eq_false (fun h => h0 h.1), Bool.false_and] at hb; subst hb
        have e8 : decide (0 ≤ n) = false := decide_eq_false h0
        clear h0
        go_enter Tryz.func66, Tryz.ntmps66
        go_wp2_with fail
        go_returns
        exact ⟨rfl, (Ext.refl w).alloc _⟩
    · rw [okW_else c1 c2 c3] at hb
      have ht := hide (fun w => takes_c c w)
      generalize tkI c = t at *
      have e1 : (c == 1) = false := by simpa using c1
      have e2 : (c == 2) = false := by simpa using c2
      have e3 : (c == 3) = false := by simpa using c3
      clear c1 c2 c3
      by_cases h0 : 0 ≤ t
      · rw [decide_eq_true h0, Bool.true_and] at hb
        by_cases hn : n = 0
        · subst hn
          rw [decide_eq_true rfl, Bool.true_and] at hb
          by_cases h : s.size = 0
          · rw [decide_eq_true h] at hb; subst hb
            have he := empty_yes h
            go_enter Tryz.func66, Tryz.ntmps66
            go_wp2_with (go_at_call 67; (with_reducible refine seq_gw (ht.out _) ?_); intro g)
            go_returns
            exact ⟨rfl, ((Ext.refl w).alloc _).trans g.grown⟩
          · rw [decide_eq_false h] at hb; subst hb
            have he := empty_no h
            go_enter Tryz.func66, Tryz.ntmps66
            go_wp2_with (go_at_call 67; (with_reducible refine seq_gw (ht.out _) ?_); intro g)
            go_returns
            exact ⟨rfl, ((Ext.refl w).alloc _).trans g.grown⟩
        · rw [decide_eq_false hn, Bool.false_and] at hb; subst hb
          have en : (n == 0) = false := by simpa using hn
          clear hn
          go_enter Tryz.func66, Tryz.ntmps66
          go_wp2_with (go_at_call 67; (with_reducible refine seq_gw (ht.out _) ?_); intro g)
          go_returns
          exact ⟨rfl, ((Ext.refl w).alloc _).trans g.grown⟩
      · rw [decide_eq_false h0, Bool.false_and] at hb; subst hb
        have et : decide (0 ≤ t) = false := decide_eq_false h0
        clear h0
        go_enter Tryz.func66, Tryz.ntmps66
        go_wp2_with (go_at_call 67; (with_reducible refine seq_gw (ht.out _) ?_); intro g)
        go_returns
        exact ⟨rfl, ((Ext.refl w).alloc _).trans g.grown⟩
  exact key _ rfl
set_option maxHeartbeats 4000000 in
theorem refWord_c (c n : Int) (s : ByteArray) (w : World) : Calls Tryz.prog 128 #[val c n s] w fun e w' => e = .returned (.bool (okW (c, n, s))) ∧ Ext w w' := by
  have key : ∀ b, okW (c, n, s) = b → Calls Tryz.prog 128 #[val c n s] w fun e w' => e = .returned (.bool b) ∧ Ext w w' := by
    intro b hb
    have ht := hide (fun w => refTakes_c c w)
    by_cases c1 : c = 1
    · subst c1
      rw [okW_1] at hb
      rw [show tkI 1 = 0 from rfl] at ht
      by_cases h : s.size = 0
      · rw [decide_eq_true h] at hb; subst hb
        have he := empty_yes h
        have hl : decide ((64 : Int) < (s.size : Int)) = false := by rw [decide_eq_false_iff_not]; omega
        clear h
        go_enter Tryz.func128, Tryz.ntmps128
        go_wp2_with (go_at_call 129; (with_reducible refine seq_gw (ht.out _) ?_); intro g)
        go_returns
        exact ⟨rfl, ((Ext.refl w).alloc _).trans g.grown⟩
      · rw [decide_eq_false h] at hb; subst hb
        have he := empty_no h
        go_enter Tryz.func128, Tryz.ntmps128
        go_wp2_with (go_at_call 129; (with_reducible refine seq_gw (ht.out _) ?_); intro g)
        go_returns
        exact ⟨rfl, ((Ext.refl w).alloc _).trans g.grown⟩
    by_cases c2 : c = 2
    · subst c2
      rw [okW_2] at hb
      rw [show tkI 2 = 0 from rfl] at ht
      by_cases h : s.size ≤ 64
      · rw [decide_eq_true h, Bool.and_true] at hb
        have hi : decide ((64 : Int) < (s.size : Int)) = false := by rw [decide_eq_false_iff_not]; omega
        have hn : (n == 0) = b := by rw [← hb]; rfl
        clear hb h
        go_enter Tryz.func128, Tryz.ntmps128
        go_wp2_with (go_at_call 129; (with_reducible refine seq_gw (ht.out _) ?_); intro g)
        go_returns
        exact ⟨by first | rfl | rw [hn] | rw [← hn], ((Ext.refl w).alloc _).trans g.grown⟩
      · rw [decide_eq_false h, Bool.and_false] at hb; subst hb
        have hi : (64 : Int) < (s.size : Int) := by omega
        go_enter Tryz.func128, Tryz.ntmps128
        go_wp2_with (go_at_call 129; (with_reducible refine seq_gw (ht.out _) ?_); intro g)
        go_returns
        exact ⟨rfl, ((Ext.refl w).alloc _).trans g.grown⟩
    have e2 : (c == 2) = false := by simpa using c2
    have e2' : (c != 2) = true := by simpa using c2
    by_cases h : s.size = 0
    · have he := empty_yes h
      have hl : decide ((64 : Int) < (s.size : Int)) = false := by rw [decide_eq_false_iff_not]; omega
      by_cases c3 : c = 3
      · subst c3
        rw [okW_3, decide_eq_true h, Bool.and_true] at hb
        rw [show tkI 3 = 0 from rfl] at ht
        clear h c1 c2
        by_cases h0 : 0 ≤ n
        · by_cases h8 : n < 8
          · rw [decide_eq_true ⟨h0, h8⟩] at hb; subst hb
            go_enter Tryz.func128, Tryz.ntmps128
            go_wp2_with (go_at_call 129; (with_reducible refine seq_gw (ht.out _) ?_); intro g)
            go_returns
            exact ⟨rfl, ((Ext.refl w).alloc _).trans g.grown⟩
          · rw [decide_eq_false (fun h => h8 h.2)] at hb; subst hb
            have e8 : decide (n < 8) = false := decide_eq_false h8
            clear h8
            go_enter Tryz.func128, Tryz.ntmps128
            go_wp2_with (go_at_call 129; (with_reducible refine seq_gw (ht.out _) ?_); intro g)
            go_returns
            exact ⟨rfl, ((Ext.refl w).alloc _).trans g.grown⟩
        · rw [decide_eq_false (fun h => h0 h.1)] at hb; subst hb
          have e8 : decide (0 ≤ n) = false := decide_eq_false h0
          clear h0
          go_enter Tryz.func128, Tryz.ntmps128
          go_wp2_with (go_at_call 129; (with_reducible refine seq_gw (ht.out _) ?_); intro g)
          go_returns
          exact ⟨rfl, ((Ext.refl w).alloc _).trans g.grown⟩
      · rw [okW_else c1 c2 c3, decide_eq_true h, Bool.and_true] at hb
        generalize tkI c = t at *
        have e1 : (c == 1) = false := by simpa using c1
        have e3 : (c == 3) = false := by simpa using c3
        clear c1 c2 c3 h
        by_cases h0 : 0 ≤ t
        · rw [decide_eq_true h0, Bool.true_and] at hb
          have h0' : ¬ t < 0 := by omega
          have hn : (n == 0) = b := by rw [← hb]; rfl
          clear hb
          go_enter Tryz.func128, Tryz.ntmps128
          go_wp2_with (go_at_call 129; (with_reducible refine seq_gw (ht.out _) ?_); intro g)
          go_returns
          exact ⟨by first | rfl | rw [hn] | rw [← hn], ((Ext.refl w).alloc _).trans g.grown⟩
        · rw [decide_eq_false h0, Bool.false_and] at hb; subst hb
          have h0' : t < 0 := by omega
          clear h0
          go_enter Tryz.func128, Tryz.ntmps128
          go_wp2_with (go_at_call 129; (with_reducible refine seq_gw (ht.out _) ?_); intro g)
          go_returns
          exact ⟨rfl, ((Ext.refl w).alloc _).trans g.grown⟩
    · have he := empty_no h
      have hbf : b = false := by
        rw [← hb]
        by_cases c3 : c = 3
        · subst c3; rw [okW_3, decide_eq_false h, Bool.and_false]
        · rw [okW_else c1 c2 c3, decide_eq_false h, Bool.and_false, Bool.and_false]
      subst hbf
      clear hb h c1 c2
      generalize tkI c = t at *
      by_cases h0 : t < 0
      · go_enter Tryz.func128, Tryz.ntmps128
        go_wp2_with (go_at_call 129; (with_reducible refine seq_gw (ht.out _) ?_); intro g)
        go_returns
        exact ⟨rfl, ((Ext.refl w).alloc _).trans g.grown⟩
      · go_enter Tryz.func128, Tryz.ntmps128
        go_wp2_with (go_at_call 129; (with_reducible refine seq_gw (ht.out _) ?_); intro g)
        go_returns
        exact ⟨rfl, ((Ext.refl w).alloc _).trans g.grown⟩
  exact key _ rfl
end Go.Proofs.YtljkneajdndgjabGreat
