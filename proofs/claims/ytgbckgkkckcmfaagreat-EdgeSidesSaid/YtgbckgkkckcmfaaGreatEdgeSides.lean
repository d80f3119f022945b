/-
  Layer 10 (edge), 10.4: for every two lists of edges, and tick, what is ahead of a tick and from it on says all: two tables that agree on both sides are one. No condition.
-/
import Derived.Test.YtgbckgkkckcmfaaGreatEdgL
import Derived.Test.YtgbckgkkckcmfaaGreatEdgD
import Derived.Test.YtgbckgkkckcmfaaGreatEdgK
import Derived.Test.YtgbckgkkckcmfaaGreatArgE
import Derived.WalkKit
import Derived.ProofKit
import Derived.OpenShut
import Derived.ShutString
import Derived.ChangeOld
import Derived.Below
import Derived.Lib.SmallJoins
import Derived.SizedLaws
import Derived.Deep.CondSized
import Derived.JoinedCond
set_option linter.unusedVariables false
set_option linter.unusedSimpArgs false
namespace Go.Proofs.YtgbckgkkckcmfaaGreat.edgeSides
open Go.ChangeShapes Go.WideShapes Go.ChangeAt Go.RowKit Go.Joins
open Go.ChangeMaps (open_string shut_string)
attribute [local go_sem] GW.cell GW.frozen In.eq_true In.le_true In.ne In.ne' In.ne_add In.ne_add' In.lt_add Upto.le_true Upto.le_add Upto.lt_add

set_option maxHeartbeats 8000000 in
set_option maxRecDepth 100000 in
theorem walk (a b : List Ve) (t : Int) (v1 v2 : Value) (w : World) (ha : Ew w [] v1 a) (hb : Ew w [] v2 b) : Calls Tryz.prog 9 #[v1, v2, .int .i64 t] w fun e w' => e = .returned (.bool true) ∧ Ext w w' := by
  have hA1 := hide (fun w' (hX : Ext w w') => edgeAhead_c a t v1 w' (ha.ext hX))
  have hA2 := hide (fun w' (hX : Ext w w') => edgeAhead_c b t v2 w' (hb.ext hX))
  have hA3 := hide (fun w' (hX : Ext w w') => edgeRest_c a t v1 w' (ha.ext hX))
  have hA4 := hide (fun w' (hX : Ext w w') => edgeRest_c b t v2 w' (hb.ext hX))
  have hs : Hid (mpE (ahOp t) (eds a) = 0 → mpE (ahOp t) (eds b) = 0 → mpE (reOp t) (eds a) = 0 → mpE (reOp t) (eds b) = 0 → 0 ≤ t → t < 1125899906842624 → mpR (ahOp t) (eds a) = mpR (ahOp t) (eds b) → mpR (reOp t) (eds a) = mpR (reOp t) (eds b) → eds a = eds b) := fun q1 q2 q3 q4 h0 hF k1 k2 => sides_one h0 hF q1 q2 q3 q4 k1 k2
  have hrefl : Hid (eds a = eds b → mpR (ahOp t) (eds a) = mpR (ahOp t) (eds b) ∧ mpR (reOp t) (eds a) = mpR (reOp t) (eds b)) := fun h => by rw [h]; exact ⟨rfl, rfl⟩
  have hab := hide (fun w' (hX : Ext w w') => refEdgeSame_c (ha.ext hX) (hb.ext hX))
  generalize mpE (ahOp t) (eds a) = E1 at *
  generalize mpE (ahOp t) (eds b) = E2 at *
  generalize mpE (reOp t) (eds a) = E3 at *
  generalize mpE (reOp t) (eds b) = E4 at *
  generalize mpR (ahOp t) (eds a) = R1 at *
  generalize mpR (ahOp t) (eds b) = R2 at *
  generalize mpR (reOp t) (eds a) = R3 at *
  generalize mpR (reOp t) (eds b) = R4 at *
  obtain ⟨VA, acap, rfl, -, -, -⟩ := ew_form ha
  obtain ⟨VB, bcap, rfl, -, -, -⟩ := ew_form hb
  clear ha hb
  by_cases q1 : E1 = 0
  · subst q1
    by_cases q2 : E2 = 0
    · subst q2
      by_cases q3 : E3 = 0
      · subst q3
        by_cases q4 : E4 = 0
        · subst q4
          by_cases t0 : 0 ≤ t
          · by_cases tF : t < 1125899906842624
            · replace hs := hide (hs.out rfl rfl rfl rfl t0 tF)
              by_cases hq : eds a = eds b
              · obtain ⟨p1, p2⟩ := hrefl.out hq
                have d12 : Hid (∀ (x y : List Ed), x = R1 → y = R2 → decide (x = y) = true) := fun x y hx hy => decide_eq_true (by rw [hx, hy, p1])
                have d34 : Hid (∀ (x y : List Ed), x = R3 → y = R4 → decide (x = y) = true) := fun x y hx hy => decide_eq_true (by rw [hx, hy, p2])
                rw [decide_eq_true hq] at hab
                replace hq := hide hq
                replace p1 := hide p1
                replace p2 := hide p2
                clear hs hrefl
                go_enter Tryz.func9, Tryz.ntmps9
                go_wp2_with (first | (go_at_call 35; first | ((with_reducible refine (hA1.out _ (Ext.refl _)).mono ?_); rintro ee w1 ⟨u1, N1, rfl, hN1, o1, x1⟩; have s1 := hide o1.ew; obtain ⟨A1, c1, rfl⟩ := own_form o1.1; replace hN1 := hide hN1; have X1 : Ext w w1 := x1;  clear o1) | ((with_reducible refine (hA2.out _ X1).mono ?_); rintro ee w2 ⟨u2, N2, rfl, hN2, o2, x2⟩; have s2 := hide o2.ew; obtain ⟨A2, c2, rfl⟩ := own_form o2.1; replace hN2 := hide hN2; have X2 : Ext w w2 := X1.trans (x2); replace s1 := hide (s1.out.ext x2);  clear o2)) | (go_at_call 36; first | ((with_reducible refine (hA3.out _ X2).mono ?_); rintro ee w3 ⟨u3, N3, rfl, hN3, o3, x3⟩; have s3 := hide o3.ew; obtain ⟨A3, c3, rfl⟩ := own_form o3.1; replace hN3 := hide hN3; have X3 : Ext w w3 := X2.trans (x3); replace s1 := hide (s1.out.ext x3); replace s2 := hide (s2.out.ext x3);  clear o3) | ((with_reducible refine (hA4.out _ X3).mono ?_); rintro ee w4 ⟨u4, N4, rfl, hN4, o4, x4⟩; have s4 := hide o4.ew; obtain ⟨A4, c4, rfl⟩ := own_form o4.1; replace hN4 := hide hN4; have X4 : Ext w w4 := X3.trans (x4); replace s1 := hide (s1.out.ext x4); replace s2 := hide (s2.out.ext x4); replace s3 := hide (s3.out.ext x4);  clear o4)) | (go_at_call 11; (with_reducible refine seq_gw' (edgLive_c _) ?_); intro g3) | (go_at_call 14; first | ((with_reducible refine seq_gw' (hab.out _ (X4.trans g3.grown)) ?_); intro g4) | (with_reducible refine seq_gw' (refEdgeSame_c (s3.out.ext g1.grown) (s4.out.ext g1.grown)) ?_; rw [d34.out _ _ hN3.out hN4.out]; intro g2) | (with_reducible refine seq_gw (refEdgeSame_c s1.out s2.out) ?_; rw [d12.out _ _ hN1.out hN2.out]; intro g1)))
                go_returns
                exact ⟨by first | rfl | simp, X4.trans g4.grown⟩
              · have hn : ¬ (R1 = R2 ∧ R3 = R4) := fun k => hq (hs.out k.1 k.2)
                rw [decide_eq_false hq] at hab
                replace hq := hide hq
                clear hs hrefl
                by_cases p1 : R1 = R2
                · have p2 : ¬ R3 = R4 := fun h => hn ⟨p1, h⟩
                  have d12 : Hid (∀ (x y : List Ed), x = R1 → y = R2 → decide (x = y) = true) := fun x y hx hy => decide_eq_true (by rw [hx, hy, p1])
                  have d34 : Hid (∀ (x y : List Ed), x = R3 → y = R4 → decide (x = y) = false) := fun x y hx hy => decide_eq_false (by rw [hx, hy]; exact p2)
                  replace p1 := hide p1
                  replace p2 := hide p2
                  clear hn
                  go_enter Tryz.func9, Tryz.ntmps9
                  go_wp2_with (first | (go_at_call 35; first | ((with_reducible refine (hA1.out _ (Ext.refl _)).mono ?_); rintro ee w1 ⟨u1, N1, rfl, hN1, o1, x1⟩; have s1 := hide o1.ew; obtain ⟨A1, c1, rfl⟩ := own_form o1.1; replace hN1 := hide hN1; have X1 : Ext w w1 := x1;  clear o1) | ((with_reducible refine (hA2.out _ X1).mono ?_); rintro ee w2 ⟨u2, N2, rfl, hN2, o2, x2⟩; have s2 := hide o2.ew; obtain ⟨A2, c2, rfl⟩ := own_form o2.1; replace hN2 := hide hN2; have X2 : Ext w w2 := X1.trans (x2); replace s1 := hide (s1.out.ext x2);  clear o2)) | (go_at_call 36; first | ((with_reducible refine (hA3.out _ X2).mono ?_); rintro ee w3 ⟨u3, N3, rfl, hN3, o3, x3⟩; have s3 := hide o3.ew; obtain ⟨A3, c3, rfl⟩ := own_form o3.1; replace hN3 := hide hN3; have X3 : Ext w w3 := X2.trans (x3); replace s1 := hide (s1.out.ext x3); replace s2 := hide (s2.out.ext x3);  clear o3) | ((with_reducible refine (hA4.out _ X3).mono ?_); rintro ee w4 ⟨u4, N4, rfl, hN4, o4, x4⟩; have s4 := hide o4.ew; obtain ⟨A4, c4, rfl⟩ := own_form o4.1; replace hN4 := hide hN4; have X4 : Ext w w4 := X3.trans (x4); replace s1 := hide (s1.out.ext x4); replace s2 := hide (s2.out.ext x4); replace s3 := hide (s3.out.ext x4);  clear o4)) | (go_at_call 11; (with_reducible refine seq_gw' (edgLive_c _) ?_); intro g3) | (go_at_call 14; first | ((with_reducible refine seq_gw' (hab.out _ (X4.trans g3.grown)) ?_); intro g4) | (with_reducible refine seq_gw' (refEdgeSame_c (s3.out.ext g1.grown) (s4.out.ext g1.grown)) ?_; rw [d34.out _ _ hN3.out hN4.out]; intro g2) | (with_reducible refine seq_gw (refEdgeSame_c s1.out s2.out) ?_; rw [d12.out _ _ hN1.out hN2.out]; intro g1)))
                  go_returns
                  exact ⟨by first | rfl | simp, X4.trans g4.grown⟩
                · have d12 : Hid (∀ (x y : List Ed), x = R1 → y = R2 → decide (x = y) = false) := fun x y hx hy => decide_eq_false (by rw [hx, hy]; exact p1)
                  replace p1 := hide p1
                  clear hn
                  go_enter Tryz.func9, Tryz.ntmps9
                  go_wp2_with (first | (go_at_call 35; first | ((with_reducible refine (hA1.out _ (Ext.refl _)).mono ?_); rintro ee w1 ⟨u1, N1, rfl, hN1, o1, x1⟩; have s1 := hide o1.ew; obtain ⟨A1, c1, rfl⟩ := own_form o1.1; replace hN1 := hide hN1; have X1 : Ext w w1 := x1;  clear o1) | ((with_reducible refine (hA2.out _ X1).mono ?_); rintro ee w2 ⟨u2, N2, rfl, hN2, o2, x2⟩; have s2 := hide o2.ew; obtain ⟨A2, c2, rfl⟩ := own_form o2.1; replace hN2 := hide hN2; have X2 : Ext w w2 := X1.trans (x2); replace s1 := hide (s1.out.ext x2);  clear o2)) | (go_at_call 36; first | ((with_reducible refine (hA3.out _ X2).mono ?_); rintro ee w3 ⟨u3, N3, rfl, hN3, o3, x3⟩; have s3 := hide o3.ew; obtain ⟨A3, c3, rfl⟩ := own_form o3.1; replace hN3 := hide hN3; have X3 : Ext w w3 := X2.trans (x3); replace s1 := hide (s1.out.ext x3); replace s2 := hide (s2.out.ext x3);  clear o3) | ((with_reducible refine (hA4.out _ X3).mono ?_); rintro ee w4 ⟨u4, N4, rfl, hN4, o4, x4⟩; have s4 := hide o4.ew; obtain ⟨A4, c4, rfl⟩ := own_form o4.1; replace hN4 := hide hN4; have X4 : Ext w w4 := X3.trans (x4); replace s1 := hide (s1.out.ext x4); replace s2 := hide (s2.out.ext x4); replace s3 := hide (s3.out.ext x4);  clear o4)) | (go_at_call 11; (with_reducible refine seq_gw' (edgLive_c _) ?_); intro g3) | (go_at_call 14; first | ((with_reducible refine seq_gw' (hab.out _ (X4.trans g3.grown)) ?_); intro g4) | (with_reducible refine seq_gw (refEdgeSame_c s1.out s2.out) ?_; rw [d12.out _ _ hN1.out hN2.out]; intro g1)))
                  go_returns
                  exact ⟨by first | rfl | simp, X4.trans g4.grown⟩
            · have tF' : 1125899906842624 ≤ t := by omega
              clear hs hrefl hab
              go_enter Tryz.func9, Tryz.ntmps9
              go_wp2_with (first | (go_at_call 35; first | ((with_reducible refine (hA1.out _ (Ext.refl _)).mono ?_); rintro ee w1 ⟨u1, N1, rfl, hN1, o1, x1⟩; have s1 := hide o1.ew; obtain ⟨A1, c1, rfl⟩ := own_form o1.1; replace hN1 := hide hN1; have X1 : Ext w w1 := x1;  clear o1) | ((with_reducible refine (hA2.out _ X1).mono ?_); rintro ee w2 ⟨u2, N2, rfl, hN2, o2, x2⟩; have s2 := hide o2.ew; obtain ⟨A2, c2, rfl⟩ := own_form o2.1; replace hN2 := hide hN2; have X2 : Ext w w2 := X1.trans (x2); replace s1 := hide (s1.out.ext x2);  clear o2)) | (go_at_call 36; first | ((with_reducible refine (hA3.out _ X2).mono ?_); rintro ee w3 ⟨u3, N3, rfl, hN3, o3, x3⟩; have s3 := hide o3.ew; obtain ⟨A3, c3, rfl⟩ := own_form o3.1; replace hN3 := hide hN3; have X3 : Ext w w3 := X2.trans (x3); replace s1 := hide (s1.out.ext x3); replace s2 := hide (s2.out.ext x3);  clear o3) | ((with_reducible refine (hA4.out _ X3).mono ?_); rintro ee w4 ⟨u4, N4, rfl, hN4, o4, x4⟩; have s4 := hide o4.ew; obtain ⟨A4, c4, rfl⟩ := own_form o4.1; replace hN4 := hide hN4; have X4 : Ext w w4 := X3.trans (x4); replace s1 := hide (s1.out.ext x4); replace s2 := hide (s2.out.ext x4); replace s3 := hide (s3.out.ext x4);  clear o4)) | (go_at_call 11; (first | (with_reducible refine seq_gw' (edgLive_c _) ?_) | (with_reducible refine seq_gw (edgLive_c _) ?_)); intro g))
              go_returns
              exact ⟨by first | rfl | simp, X4.trans g.grown⟩
          · have t0' : t < 0 := by omega
            clear hs hrefl hab
            go_enter Tryz.func9, Tryz.ntmps9
            go_wp2_with (first | (go_at_call 35; first | ((with_reducible refine (hA1.out _ (Ext.refl _)).mono ?_); rintro ee w1 ⟨u1, N1, rfl, hN1, o1, x1⟩; have s1 := hide o1.ew; obtain ⟨A1, c1, rfl⟩ := own_form o1.1; replace hN1 := hide hN1; have X1 : Ext w w1 := x1;  clear o1) | ((with_reducible refine (hA2.out _ X1).mono ?_); rintro ee w2 ⟨u2, N2, rfl, hN2, o2, x2⟩; have s2 := hide o2.ew; obtain ⟨A2, c2, rfl⟩ := own_form o2.1; replace hN2 := hide hN2; have X2 : Ext w w2 := X1.trans (x2); replace s1 := hide (s1.out.ext x2);  clear o2)) | (go_at_call 36; first | ((with_reducible refine (hA3.out _ X2).mono ?_); rintro ee w3 ⟨u3, N3, rfl, hN3, o3, x3⟩; have s3 := hide o3.ew; obtain ⟨A3, c3, rfl⟩ := own_form o3.1; replace hN3 := hide hN3; have X3 : Ext w w3 := X2.trans (x3); replace s1 := hide (s1.out.ext x3); replace s2 := hide (s2.out.ext x3);  clear o3) | ((with_reducible refine (hA4.out _ X3).mono ?_); rintro ee w4 ⟨u4, N4, rfl, hN4, o4, x4⟩; have s4 := hide o4.ew; obtain ⟨A4, c4, rfl⟩ := own_form o4.1; replace hN4 := hide hN4; have X4 : Ext w w4 := X3.trans (x4); replace s1 := hide (s1.out.ext x4); replace s2 := hide (s2.out.ext x4); replace s3 := hide (s3.out.ext x4);  clear o4)) | (go_at_call 11; (first | (with_reducible refine seq_gw' (edgLive_c _) ?_) | (with_reducible refine seq_gw (edgLive_c _) ?_)); intro g))
            go_returns
            exact ⟨by first | rfl | simp, X4.trans g.grown⟩
        · have hne : (E4 != 0) = true := by simp [q4]
          replace q4 := hide q4
          clear hs hrefl hab
          go_enter Tryz.func9, Tryz.ntmps9
          go_wp2_with (first | (go_at_call 35; first | ((with_reducible refine (hA1.out _ (Ext.refl _)).mono ?_); rintro ee w1 ⟨u1, N1, rfl, hN1, o1, x1⟩; have s1 := hide o1.ew; obtain ⟨A1, c1, rfl⟩ := own_form o1.1; replace hN1 := hide hN1; have X1 : Ext w w1 := x1;  clear o1) | ((with_reducible refine (hA2.out _ X1).mono ?_); rintro ee w2 ⟨u2, N2, rfl, hN2, o2, x2⟩; have s2 := hide o2.ew; obtain ⟨A2, c2, rfl⟩ := own_form o2.1; replace hN2 := hide hN2; have X2 : Ext w w2 := X1.trans (x2); replace s1 := hide (s1.out.ext x2);  clear o2)) | (go_at_call 36; first | ((with_reducible refine (hA3.out _ X2).mono ?_); rintro ee w3 ⟨u3, N3, rfl, hN3, o3, x3⟩; have s3 := hide o3.ew; obtain ⟨A3, c3, rfl⟩ := own_form o3.1; replace hN3 := hide hN3; have X3 : Ext w w3 := X2.trans (x3); replace s1 := hide (s1.out.ext x3); replace s2 := hide (s2.out.ext x3);  clear o3) | ((with_reducible refine (hA4.out _ X3).mono ?_); rintro ee w4 ⟨u4, N4, rfl, hN4, o4, x4⟩; have s4 := hide o4.ew; obtain ⟨A4, c4, rfl⟩ := own_form o4.1; replace hN4 := hide hN4; have X4 : Ext w w4 := X3.trans (x4); replace s1 := hide (s1.out.ext x4); replace s2 := hide (s2.out.ext x4); replace s3 := hide (s3.out.ext x4);  clear o4)) | (go_at_call 11; (first | (with_reducible refine seq_gw' (edgLive_c _) ?_) | (with_reducible refine seq_gw (edgLive_c _) ?_)); intro g))
          go_returns
          exact ⟨by first | rfl | simp, X4.trans g.grown⟩
      · have hne : (E3 != 0) = true := by simp [q3]
        replace q3 := hide q3
        clear hs hrefl hab
        go_enter Tryz.func9, Tryz.ntmps9
        go_wp2_with (first | (go_at_call 35; first | ((with_reducible refine (hA1.out _ (Ext.refl _)).mono ?_); rintro ee w1 ⟨u1, N1, rfl, hN1, o1, x1⟩; have s1 := hide o1.ew; obtain ⟨A1, c1, rfl⟩ := own_form o1.1; replace hN1 := hide hN1; have X1 : Ext w w1 := x1;  clear o1) | ((with_reducible refine (hA2.out _ X1).mono ?_); rintro ee w2 ⟨u2, N2, rfl, hN2, o2, x2⟩; have s2 := hide o2.ew; obtain ⟨A2, c2, rfl⟩ := own_form o2.1; replace hN2 := hide hN2; have X2 : Ext w w2 := X1.trans (x2); replace s1 := hide (s1.out.ext x2);  clear o2)) | (go_at_call 36; first | ((with_reducible refine (hA3.out _ X2).mono ?_); rintro ee w3 ⟨u3, N3, rfl, hN3, o3, x3⟩; have s3 := hide o3.ew; obtain ⟨A3, c3, rfl⟩ := own_form o3.1; replace hN3 := hide hN3; have X3 : Ext w w3 := X2.trans (x3); replace s1 := hide (s1.out.ext x3); replace s2 := hide (s2.out.ext x3);  clear o3) | ((with_reducible refine (hA4.out _ X3).mono ?_); rintro ee w4 ⟨u4, N4, rfl, hN4, o4, x4⟩; have s4 := hide o4.ew; obtain ⟨A4, c4, rfl⟩ := own_form o4.1; replace hN4 := hide hN4; have X4 : Ext w w4 := X3.trans (x4); replace s1 := hide (s1.out.ext x4); replace s2 := hide (s2.out.ext x4); replace s3 := hide (s3.out.ext x4);  clear o4)) | (go_at_call 11; (first | (with_reducible refine seq_gw' (edgLive_c _) ?_) | (with_reducible refine seq_gw (edgLive_c _) ?_)); intro g))
        go_returns
        exact ⟨by first | rfl | simp, X4.trans g.grown⟩
    · have hne : (E2 != 0) = true := by simp [q2]
      replace q2 := hide q2
      clear hs hrefl hab
      go_enter Tryz.func9, Tryz.ntmps9
      go_wp2_with (first | (go_at_call 35; first | ((with_reducible refine (hA1.out _ (Ext.refl _)).mono ?_); rintro ee w1 ⟨u1, N1, rfl, hN1, o1, x1⟩; have s1 := hide o1.ew; obtain ⟨A1, c1, rfl⟩ := own_form o1.1; replace hN1 := hide hN1; have X1 : Ext w w1 := x1;  clear o1) | ((with_reducible refine (hA2.out _ X1).mono ?_); rintro ee w2 ⟨u2, N2, rfl, hN2, o2, x2⟩; have s2 := hide o2.ew; obtain ⟨A2, c2, rfl⟩ := own_form o2.1; replace hN2 := hide hN2; have X2 : Ext w w2 := X1.trans (x2); replace s1 := hide (s1.out.ext x2);  clear o2)) | (go_at_call 36; first | ((with_reducible refine (hA3.out _ X2).mono ?_); rintro ee w3 ⟨u3, N3, rfl, hN3, o3, x3⟩; have s3 := hide o3.ew; obtain ⟨A3, c3, rfl⟩ := own_form o3.1; replace hN3 := hide hN3; have X3 : Ext w w3 := X2.trans (x3); replace s1 := hide (s1.out.ext x3); replace s2 := hide (s2.out.ext x3);  clear o3) | ((with_reducible refine (hA4.out _ X3).mono ?_); rintro ee w4 ⟨u4, N4, rfl, hN4, o4, x4⟩; have s4 := hide o4.ew; obtain ⟨A4, c4, rfl⟩ := own_form o4.1; replace hN4 := hide hN4; have X4 : Ext w w4 := X3.trans (x4); replace s1 := hide (s1.out.ext x4); replace s2 := hide (s2.out.ext x4); replace s3 := hide (s3.out.ext x4);  clear o4)) | (go_at_call 11; (first | (with_reducible refine seq_gw' (edgLive_c _) ?_) | (with_reducible refine seq_gw (edgLive_c _) ?_)); intro g))
      go_returns
      exact ⟨by first | rfl | simp, X4.trans g.grown⟩
  · have hne : (E1 != 0) = true := by simp [q1]
    replace q1 := hide q1
    clear hs hrefl hab
    go_enter Tryz.func9, Tryz.ntmps9
    go_wp2_with (first | (go_at_call 35; first | ((with_reducible refine (hA1.out _ (Ext.refl _)).mono ?_); rintro ee w1 ⟨u1, N1, rfl, hN1, o1, x1⟩; have s1 := hide o1.ew; obtain ⟨A1, c1, rfl⟩ := own_form o1.1; replace hN1 := hide hN1; have X1 : Ext w w1 := x1;  clear o1) | ((with_reducible refine (hA2.out _ X1).mono ?_); rintro ee w2 ⟨u2, N2, rfl, hN2, o2, x2⟩; have s2 := hide o2.ew; obtain ⟨A2, c2, rfl⟩ := own_form o2.1; replace hN2 := hide hN2; have X2 : Ext w w2 := X1.trans (x2); replace s1 := hide (s1.out.ext x2);  clear o2)) | (go_at_call 36; first | ((with_reducible refine (hA3.out _ X2).mono ?_); rintro ee w3 ⟨u3, N3, rfl, hN3, o3, x3⟩; have s3 := hide o3.ew; obtain ⟨A3, c3, rfl⟩ := own_form o3.1; replace hN3 := hide hN3; have X3 : Ext w w3 := X2.trans (x3); replace s1 := hide (s1.out.ext x3); replace s2 := hide (s2.out.ext x3);  clear o3) | ((with_reducible refine (hA4.out _ X3).mono ?_); rintro ee w4 ⟨u4, N4, rfl, hN4, o4, x4⟩; have s4 := hide o4.ew; obtain ⟨A4, c4, rfl⟩ := own_form o4.1; replace hN4 := hide hN4; have X4 : Ext w w4 := X3.trans (x4); replace s1 := hide (s1.out.ext x4); replace s2 := hide (s2.out.ext x4); replace s3 := hide (s3.out.ext x4);  clear o4)) | (go_at_call 11; (first | (with_reducible refine seq_gw' (edgLive_c _) ?_) | (with_reducible refine seq_gw (edgLive_c _) ?_)); intro g))
    go_returns
    exact ⟨by first | rfl | simp, X4.trans g.grown⟩

theorem own : ownKnob Tryz.prog.godebug = none := by kernel_rfl
theorem laidOut : laidOutB Tryz.prog = true := by kernel_rfl
set_option maxRecDepth 100000 in
theorem lifted (os : Os) (started : os.Started) (H : Type) (enc : TypeId × Value → H) :
    ReturnsInHanded {} Tryz.checked os 9 .any (Rows.edgeSidesSpec.pre6 enc Tryz.prog Tryz.f9 Rows.edgeSidesRow.domain false) (Rows.edgeSidesSpec.post enc Tryz.prog Tryz.f9 false true false false) := by
  refine returnsInHanded_of_change_sized (C := Tryz.checked) own started (by kernel_rfl) Tryz.func9
    (ChangeSpec.witness6 (enc := enc) (C := Tryz.checked) false ⟨#[], #[.slice none 0 0, .slice none 0 0, .int .i64 0], []⟩ 8 (by kernel_rfl) (by kernel_rfl) (by kernel_rfl) (by kernel_rfl)) ?_
  intro W base args ds gs before hval0 hW hcnd hsz0 _
  have hsz : (DataW.weightsEach Tryz.prog (Tryz.f9.params.toList ++ Rows.edgeSidesSpec.plain.varTypes Tryz.prog) (ds ++ gs)).all (· ≤ reachBytes) = true := hsz0
  clear hsz0
  have hval : ∀ (j : Nat) t v, Tryz.f9.params[j]? = some t → args[j]? = some v → Value.okWide Tryz.prog W .any base t v := hval0
  have hW' := hW
  obtain ⟨p, q, hA0, hV, rfl, hfz, hnd⟩ := hW
  have hA : DataW.TrodAll enc Tryz.prog W 0 (fun _ => true) true Tryz.f9.params.toList args.toList ds p := hA0
  rw [Tryz.params9] at hA hval hsz
  obtain ⟨v0, vs0, d0, ds0, p0, q0, hargs, rfl, rfl, h0, r0⟩ := trodAll_cons hA
  obtain ⟨v1, vs1, d1, ds1, p1, q1, rfl, rfl, rfl, h1, r1⟩ := trodAll_cons r0
  obtain ⟨v2, vs2, d2, ds2, p2, q2, rfl, rfl, rfl, h2, r2⟩ := trodAll_cons r1
  obtain ⟨rfl, rfl, rfl⟩ := trodAll_nil r2
  obtain rfl : args = #[v0, v1, v2] := by cases args; simp_all
  obtain ⟨rfl, rfl⟩ := trodVars_none hV
  have k0 := h0
  have lt0 : ∀ x ∈ p0, x.block < W.heap.size := by obtain ⟨m, hm⟩ := k0; exact DataW.trod_lt m _ _ _ hm
  obtain ⟨A0, n0, c0, rfl⟩ := okWide_slice Tryz.underlying22 (hval 0 22 v0 rfl rfl)
  have ⟨m0, hm0⟩ := h0
  obtain ⟨a, la, ha⟩ := open_edges Tryz.underlying22 Tryz.underlying56 (by kernel_rfl) rfl rfl rfl (by kernel_rfl) (by kernel_rfl) (by kernel_rfl) Tryz.underlying31 Tryz.underlying3 Tryz.underlying3 Tryz.underlying54 (by kernel_rfl) rfl rfl rfl (by kernel_rfl) (by kernel_rfl) (by kernel_rfl) Tryz.underlying52 Tryz.underlying3 Tryz.underlying9 hm0
  have za : a.length * 40 ≤ 140737488351232 := by rw [la]; exact sized_elems hsz (j := 0) (t := 22) (e := 56) rfl rfl Tryz.underlying22 (by kernel_rfl)
  have k1 := h1
  have lt1 : ∀ x ∈ p1, x.block < W.heap.size := by obtain ⟨m, hm⟩ := k1; exact DataW.trod_lt m _ _ _ hm
  obtain ⟨A1, n1, c1, rfl⟩ := okWide_slice Tryz.underlying22 (hval 1 22 v1 rfl rfl)
  have ⟨m1, hm1⟩ := h1
  obtain ⟨b, lb, hb⟩ := open_edges Tryz.underlying22 Tryz.underlying56 (by kernel_rfl) rfl rfl rfl (by kernel_rfl) (by kernel_rfl) (by kernel_rfl) Tryz.underlying31 Tryz.underlying3 Tryz.underlying3 Tryz.underlying54 (by kernel_rfl) rfl rfl rfl (by kernel_rfl) (by kernel_rfl) (by kernel_rfl) Tryz.underlying52 Tryz.underlying3 Tryz.underlying9 hm1
  have zb : b.length * 40 ≤ 140737488351232 := by rw [lb]; exact sized_elems hsz (j := 1) (t := 22) (e := 56) rfl rfl Tryz.underlying22 (by kernel_rfl)
  have k2 := h2
  have lt2 : ∀ x ∈ p2, x.block < W.heap.size := by obtain ⟨m, hm⟩ := k2; exact DataW.trod_lt m _ _ _ hm
  obtain ⟨t, rfl, _, _, wt⟩ := open_int Tryz.underlying3 (hval 2 3 v2 rfl rfl) h2
  have ht := wf_i64 wt
  clear hA0 hval0
  refine (walk a b t _ _ W ha hb).mono fun e W' ⟨he, bel⟩ => ?_
  subst he
  exact ⟨_, rfl, _, _, _, [], _, [], hW', trodAll_mk1 (shut_bool Tryz.underlying4 _), (trodAll_cons_mk (Below.trod laidOut (by kernel_rfl) (of_decide_eq_true (by kernel_rfl)) k0 bel lt0) (trodAll_cons_mk (Below.trod laidOut (by kernel_rfl) (of_decide_eq_true (by kernel_rfl)) k1 bel lt1) (trodAll_cons_mk (Below.trod laidOut (by kernel_rfl) (of_decide_eq_true (by kernel_rfl)) k2 bel lt2) trodAll_mk0))), rfl, bel.frame _, fun h => by cases h⟩

theorem over : Rows.edgeSidesRow.holds Tryz.pinned (OpenSpec.ofChange Rows.edgeSidesSpec) :=
  OpenClaim.holds_of_wide 9 Tryz.f9 rfl rfl rfl rfl rfl rfl rfl ⟨rfl, rfl, rfl, rfl, rfl⟩ rfl rfl rfl rfl rfl (by kernel_rfl) Tryz.func9 (by kernel_rfl)
    (of_decide_eq_true (by kernel_rfl)) (by unfold Func.isWrapper; first | (rw [if_pos (by decide +kernel)]; kernel_rfl) | (rw [if_neg (by decide +kernel)]; exact ⟨rfl, rfl⟩))
    (fun os started H enc _ => lifted os started H enc)

theorem edgeSides_holds : Rows.EdgeSidesSaid := over
end Go.Proofs.YtgbckgkkckcmfaaGreat.edgeSides
