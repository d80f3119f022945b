/-
  A helper of ours: no claim of its own. Layer 9 (step): what must be whatever is asked (live), and which lists are gone through (few).
-/
import Derived.Test.YtjigchaahbbkpacStepZ
set_option linter.unusedVariables false
set_option linter.unusedSimpArgs false
namespace Go.Proofs.Ytjigchaahbbkpac
open Go.RowKit
attribute [local go_sem] GW.cell GW.frozen In.eq_true In.le_true In.ne In.ne' In.ne_add In.ne_add' In.lt_add Upto.le_true Upto.le_add Upto.lt_add
theorem litJ2 (a b c d : Int) (w : World) : Jw (w.alloc (.cells #[.int .i64 a, .int .i64 b, .int .i64 c, .int .i64 d] 35)) [] (.slice (some ⟨w.heap.size, 0, none⟩) 2 2) [(a, b), (c, d)] :=
  Sl.own (World.ownsRow_lit (base := w.heap.size) (e := 35) (size := 2) w #[.int .i64 a, .int .i64 b, .int .i64 c, .int .i64 d] 2 (Nat.le_refl _) (by decide) rfl) (by simp)
theorem liveNorm : nmE [(5, -1), (2, 1)] = 0 ∧ nmR [(5, -1), (2, 1)] = [(2, 1), (5, -1)] := by decide
theorem liveMul : twE mulO [(2, 1), (5, -1)] [(3, 1), (9, -1)] = 0 ∧ twR mulO [(2, 1), (5, -1)] [(3, 1), (9, -1)] = [(3, 1), (5, -1)] := by decide
theorem liveAt : atV [(2, 1), (5, -1)] 4 = 1 := by decide
set_option maxHeartbeats 8000000 in
set_option maxRecDepth 100000 in
theorem stepLive_c (w : World) : Calls Try.prog 8 #[] w fun e w' => e = .returned (.bool true) ∧ Ext w w' := by
  have hN : Hid (∀ w' v', Jw w' [] v' [(5, -1), (2, 1)] → Calls Try.prog 15 #[v'] w' fun e w'' => ∃ v'', e = .returned (.tuple #[v'', .int .i64 0]) ∧ OwnJ w'' w'.heap.size v'' [(2, 1), (5, -1)] ∧ Ext w' w'') := fun w' v' h => by
    have := stepNorm_c [(5, -1), (2, 1)] (by decide) v' w' h
    rwa [liveNorm.1, liveNorm.2] at this
  have hM : Hid (∀ w' v' u', Jw w' [] v' [(2, 1), (5, -1)] → Jw w' [] u' [(3, 1), (9, -1)] → Calls Try.prog 6 #[v', u'] w' fun e w'' => ∃ v'', e = .returned (.tuple #[v'', .int .i64 0]) ∧ OwnJ w'' w'.heap.size v'' [(3, 1), (5, -1)] ∧ Ext w' w'') := fun w' v' u' h h2 => by
    have := stepMul_c [(2, 1), (5, -1)] [(3, 1), (9, -1)] v' u' w' h h2
    rwa [liveMul.1, liveMul.2] at this
  have hA : Hid (∀ w' v', Jw w' [] v' [(2, 1), (5, -1)] → Calls Try.prog 11 #[v', .int .i64 4] w' fun e w'' => e = .returned (.int .i64 1) ∧ Ext w' w'') := fun w' v' h => by
    have := stepAt_c [(2, 1), (5, -1)] 4 v' w' h
    rwa [liveAt] at this
  have hS : Hid (∀ (l : List Jp) w' v' u', Jw w' [] v' l → Jw w' [] u' l → Calls Try.prog 7 #[v', u'] w' fun e w'' => e = .returned (.bool true) ∧ Ext w' w'') := fun l w' v' u' h h2 => by
    have := refStepSame_c l l v' u' w' h h2
    rwa [decide_eq_true rfl] at this
  go_enter Try.func8, Try.ntmps8
  go_wp2_with (first
    | (go_at_call 15; refine (hN.out _ _ (litJ2 5 (-1) 2 1 w)).mono ?_; rintro ee w1 ⟨v1, rfl, o1, x1⟩; have s1 := hide (own_jw (S := []) o1 (by simp)); have X1 := hide (((Ext.refl w).alloc _).trans x1); obtain ⟨A1, c1, rfl⟩ := own_form o1; clear o1)
    | (go_at_call 6; refine (hM.out _ _ _ (Sl.ext s1.out ((Ext.refl w1).alloc _)) (litJ2 3 1 9 (-1) w1)).mono ?_; rintro ee w2 ⟨v2, rfl, o2, x2⟩; have s2 := hide (own_jw (S := []) o2 (by simp)); have X12 := hide (((Ext.refl w1).alloc _).trans x2); obtain ⟨A2, c2, rfl⟩ := own_form o2; clear o2)
    | (go_at_call 7; (with_reducible refine seq_gw (hS.out _ _ _ _ (Sl.ext s1.out (X12.out.alloc _)) (litJ2 2 1 5 (-1) w2)) ?_); intro g3)
    | (go_at_call 7; (with_reducible refine seq_gw (hS.out _ _ _ _ (Sl.ext s2.out ((((Ext.refl w2).alloc _).trans g3.grown).alloc _)) (litJ2 3 1 5 (-1) g3.val)) ?_); intro g4)
    | (go_at_call 11; (with_reducible refine seq_gw' (hA.out _ _ (Sl.ext s1.out (((X12.out.alloc _).trans (g3.grown.alloc _)).trans g4.grown))) ?_); intro g5))
  go_returns
  exact ⟨by first | rfl | simp, (X1.out.trans (X12.out.alloc _)).trans ((g3.grown.alloc _).trans g5.grown)⟩
end Go.Proofs.Ytjigchaahbbkpac
