/-
  A helper of ours: no claim of its own. Layer 10 (edge): what must be whatever is asked.
-/
import Derived.Test.YtgbckgkkckcmfaaGreatEdgU
set_option linter.unusedVariables false
set_option linter.unusedSimpArgs false
namespace Go.Proofs.YtgbckgkkckcmfaaGreat
open Go.RowKit
attribute [local go_sem] GW.cell GW.frozen In.eq_true In.le_true In.ne In.ne' In.ne_add In.ne_add' In.lt_add Upto.le_true Upto.le_add Upto.lt_add
def rI : List Vl := [(1, 1, ⟨#[]⟩)]
abbrev oI : Obj := .cells #[.int .i64 1, .int .i64 1, .string ⟨#[]⟩] 54
theorem rwI (w : World) : Rw (w.alloc oI) [] (.slice (some ⟨w.heap.size, 0, none⟩) 1 1) rI := Sl.own (World.ownsRow_lit (base := w.heap.size) (e := 54) (size := 3) w #[.int .i64 1, .int .i64 1, .string ⟨#[]⟩] 1 (Nat.le_refl _) (by decide) rfl) (by simp)
theorem ofI1 : ofE rI 2 5 = 0 := by decide +kernel
theorem ofI2 : ofE rI 5 9 = 0 := by decide +kernel
theorem ofV1 : ofR rI 2 5 = [(rI, (2, 1)), (rI, (5, -1))] := by decide +kernel
theorem ofV2 : ofR rI 5 9 = [(rI, (5, 1)), (rI, (9, -1))] := by decide +kernel
theorem adI : adE [(rI, (2, 1)), (rI, (5, -1))] [(rI, (5, 1)), (rI, (9, -1))] = 0 := by decide +kernel
theorem adV : adR [(rI, (2, 1)), (rI, (5, -1))] [(rI, (5, 1)), (rI, (9, -1))] = [(rI, (2, 1)), (rI, (9, -1))] := by decide +kernel
theorem tabI : tabE [(rI, (2, 1)), (rI, (9, -1))] = true := by decide +kernel
theorem mayI : mayE [] = true := by decide +kernel
theorem two_form {N : List Ve} {a b : Ed} (h : eds N = [a, b]) : ∃ x y, N = [(x, a), (y, b)] := by
  match N, h with
  | [(x, p), (y, q)], h => simp [eds] at h; exact ⟨x, y, by rw [h.1, h.2]⟩
set_option maxHeartbeats 8000000 in
set_option maxRecDepth 100000 in
theorem edgLive_c (w : World) : Calls Tryz.prog 11 #[] w fun e w' => e = .returned (.bool true) ∧ Ext w w' := by
  have h0 := hide (rwI w)
  have hX0 := hide ((Ext.refl w).alloc oI)
  go_enter Tryz.func11, Tryz.ntmps11
  go_wp2_with (first
    | (go_at_call 19; first | (refine (edgeOf_c rI 5 9 _ _ (Sl.ext h0.out hx1.out)).mono ?_; rintro ee w2 ⟨v2, M2, rfl, hM2, ho2, hx2⟩; rw [ofI2]; rw [ofV2] at hM2; obtain ⟨x2, y2, rfl⟩ := two_form hM2; obtain ⟨A2, c2, rfl⟩ := own_form ho2.1; have hz2 := hide (hx1.out.trans hx2)) | (refine (edgeOf_c rI 2 5 _ _ h0.out).mono ?_; rintro ee w1 ⟨v1, M1, rfl, hM1, ho1, hx1⟩; rw [ofI1]; rw [ofV1] at hM1; obtain ⟨x1, y1, rfl⟩ := two_form hM1; obtain ⟨A1, c1, rfl⟩ := own_form ho1.1; replace hx1 := hide hx1))
    | (go_at_call 31; refine (edgeAdd_c _ _ _ _ _ (ho1.ew.ext hx2) ho2.ew).mono ?_; rintro ee w5 ⟨v5, N, rfl, hN, ho5, hx5⟩; rw [show eds [((x1, rI, (2, 1)) : Ve), (y1, rI, (5, -1))] = [(rI, (2, 1)), (rI, (5, -1))] from rfl, show eds [((x2, rI, (5, 1)) : Ve), (y2, rI, (9, -1))] = [(rI, (5, 1)), (rI, (9, -1))] from rfl] at *; rw [adI]; rw [adV] at hN; obtain ⟨x5, y5, rfl⟩ := two_form hN; have hew := hide ho5.ew; obtain ⟨A5, c5, rfl, hc5, hm5, hat⟩ := ew_form hew.out; obtain ⟨b5, o5, rfl, -, hb5, -, d1, d2⟩ := hat 0 _ rfl; obtain ⟨b6, o6, e6, -, -, -, d4, d5⟩ := hat 1 _ rfl; injection e6 with e6; injection e6 with e7 e8; subst e7; subst e8; simp only [Nat.zero_mul, Nat.add_zero, Nat.one_mul] at d1 d2 d4 d5; replace hat := hide hat; have hz5 := hide (hz2.out.trans hx5))
    | (go_at_call 16; have ht := edgeTable_c _ _ _ hew.out; rw [show eds [((x5, rI, (2, 1)) : Ve), (y5, rI, (9, -1))] = [(rI, (2, 1)), (rI, (9, -1))] from rfl, tabI] at ht; (with_reducible refine seq_gw ht ?_); intro g6; clear ht)
    | (go_at_call 15; have ht := edgeMay_c [] (.slice none 0 0) g6.val ⟨Sl.nil _ _ _, by simp⟩; rw [show eds ([] : List Ve) = [] from rfl, mayI] at ht; (with_reducible refine seq_gw' ht ?_); intro g7; clear ht))
  go_returns
  exact ⟨by first | rfl | simp, (hX0.out.trans hz5.out).trans g7.grown⟩
end Go.Proofs.YtgbckgkkckcmfaaGreat
