/-
  A helper of ours: no claim of its own. Layer 18 (eval): what a word makes of two results, by the code.
-/
import Derived.Test.YtljkneajdndgjabGreatEvaB
set_option linter.unusedVariables false
set_option linter.unusedSimpArgs false
namespace Go.Proofs.YtljkneajdndgjabGreat
open Go.RowKit
attribute [local go_sem] GW.cell GW.frozen In.eq_true In.le_true In.ne In.ne' In.ne_add In.ne_add' In.lt_add Upto.le_true Upto.le_add Upto.lt_add
theorem exN_err {v e : Int} (h : e ≠ 0) : endX (exN v e) = pnc e := by unfold exN; rw [if_neg h]; rfl
theorem numsX7 (a b v z : Int) (hn : ∀ w, Calls Tryz.prog 202 #[.int .i64 a, .int .i64 b] w fun e w' => e = .returned (.tuple #[.int .i64 v, .int .i64 z]) ∧ Ext w w') (w : World) : Calls Tryz.prog 197 #[.int .i64 7, .int .i64 a, .int .i64 b] w fun e w' => e = endX (exN v z) ∧ Ext w w' := by
  by_cases h : z = 0
  · subst h; exact nums7 a b v hn w
  · rw [exN_err h]; exact nums7E a b v z h hn w
theorem numsX8 (a b v z : Int) (hn : ∀ w, Calls Tryz.prog 203 #[.int .i64 a, .int .i64 b] w fun e w' => e = .returned (.tuple #[.int .i64 v, .int .i64 z]) ∧ Ext w w') (w : World) : Calls Tryz.prog 197 #[.int .i64 8, .int .i64 a, .int .i64 b] w fun e w' => e = endX (exN v z) ∧ Ext w w' := by
  by_cases h : z = 0
  · subst h; exact nums8 a b v hn w
  · rw [exN_err h]; exact nums8E a b v z h hn w
theorem numsX9 (a b v z : Int) (hn : ∀ w, Calls Tryz.prog 204 #[.int .i64 a, .int .i64 b] w fun e w' => e = .returned (.tuple #[.int .i64 v, .int .i64 z]) ∧ Ext w w') (w : World) : Calls Tryz.prog 197 #[.int .i64 9, .int .i64 a, .int .i64 b] w fun e w' => e = endX (exN v z) ∧ Ext w w' := by
  by_cases h : z = 0
  · subst h; exact nums9 a b v hn w
  · rw [exN_err h]; exact nums9E a b v z h hn w
theorem numsX10 (a b v z : Int) (hn : ∀ w, Calls Tryz.prog 205 #[.int .i64 a, .int .i64 b] w fun e w' => e = .returned (.tuple #[.int .i64 v, .int .i64 z]) ∧ Ext w w') (w : World) : Calls Tryz.prog 197 #[.int .i64 10, .int .i64 a, .int .i64 b] w fun e w' => e = endX (exN v z) ∧ Ext w w' := by
  by_cases h : z = 0
  · subst h; exact nums10 a b v hn w
  · rw [exN_err h]; exact nums10E a b v z h hn w
theorem numsX11 (a b v z : Int) (hn : ∀ w, Calls Tryz.prog 206 #[.int .i64 a, .int .i64 b] w fun e w' => e = .returned (.tuple #[.int .i64 v, .int .i64 z]) ∧ Ext w w') (w : World) : Calls Tryz.prog 197 #[.int .i64 11, .int .i64 a, .int .i64 b] w fun e w' => e = endX (exN v z) ∧ Ext w w' := by
  by_cases h : z = 0
  · subst h; exact nums11 a b v hn w
  · rw [exN_err h]; exact nums11E a b v z h hn w
theorem ofNumbers_c (c a b : Int) (hc : (7 ≤ c ∧ c ≤ 11) ∨ c = 19 ∨ c = 20) (ha : -9223372036854775808 ≤ a ∧ a ≤ 9223372036854775807) (hb : -9223372036854775808 ≤ b ∧ b ≤ 9223372036854775807) (w : World) : Calls Tryz.prog 197 #[.int .i64 c, .int .i64 a, .int .i64 b] w fun e w' => e = endX (ofNums c a b) ∧ Ext w w' := by
  have c7 : c = 7 ∨ c = 8 ∨ c = 9 ∨ c = 10 ∨ c = 11 ∨ c = 19 ∨ c = 20 := by omega
  clear hc
  rcases c7 with rfl | rfl | rfl | rfl | rfl | rfl | rfl
  · exact numsX7 a b _ _ (add_c a b ha hb) w
  · exact numsX8 a b _ _ (sub_c a b ha hb) w
  · exact numsX9 a b _ _ (mul_c a b ha hb) w
  · exact numsX10 a b _ _ (quo_c a b ha hb) w
  · exact numsX11 a b _ _ (rem_c a b ha hb) w
  · exact nums19 a b w
  · exact nums20 a b w
set_option maxHeartbeats 4000000 in
set_option maxRecDepth 100000 in
theorem two_cat (s t : ByteArray) (hs : s.size ≤ 64) (ht : t.size ≤ 64) (h : s.size + t.size ≤ 64) (w : World) : Calls Tryz.prog 164 #[.int .i64 12, rT s, rT t] w fun e w' => e = .returned (rT (s ++ t)) ∧ Ext w w' := by
  have h1 := hide (fun w => textOf_ok s w)
  have h2 := hide (fun w => textOf_ok t w)
  have h3 := hide (fun w => cat_ok s t hs ht h w)
  go_enter Tryz.func164, Tryz.ntmps164
  go_wp2_with (first | (go_at_call 191; (with_reducible refine seq_gw (h1.out _) ?_); intro g1; clear h1) | (go_at_call 191; (with_reducible refine seq_gw' (h2.out _) ?_); intro g2) | (go_at_call 196; (with_reducible refine seq_gw' (h3.out _) ?_); intro g3))
  go_returns
  exact ⟨by first | rfl | simp [endX, rv], g3.grown⟩
set_option maxHeartbeats 4000000 in
set_option maxRecDepth 100000 in
theorem two_catE (s t : ByteArray) (hs : s.size ≤ 64) (ht : t.size ≤ 64) (h : 64 < s.size + t.size) (w : World) : Calls Tryz.prog 164 #[.int .i64 12, rT s, rT t] w fun e w' => e = pnc 6 ∧ Ext w w' := by
  have h1 := hide (fun w => textOf_ok s w)
  have h2 := hide (fun w => textOf_ok t w)
  have h3 := hide (fun w => cat_no s t hs ht h w)
  go_enter Tryz.func164, Tryz.ntmps164
  go_wp2_with (first | (go_at_call 191; (with_reducible refine seq_gw (h1.out _) ?_); intro g1; clear h1) | (go_at_call 191; (with_reducible refine seq_gw' (h2.out _) ?_); intro g2) | (go_at_call 196; (with_reducible refine seq_pn (h3.out _) ?_); intro g3))
  exact ⟨rfl, rfl, g2.grown.trans g3.grown⟩
set_option maxHeartbeats 4000000 in
set_option maxRecDepth 100000 in
theorem two_catN (n : Int) (b : Value) (w : World) : Calls Tryz.prog 164 #[.int .i64 12, rN n, b] w fun e w' => e = pnc 12 ∧ Ext w w' := by
  have h1 := hide (fun w => textOf_no n w)
  go_enter Tryz.func164, Tryz.ntmps164
  go_wp2_with (first | (go_at_call 191; (with_reducible refine seq_pn (h1.out _) ?_); intro g1))
  exact ⟨rfl, rfl, g1.grown⟩
set_option maxHeartbeats 4000000 in
set_option maxRecDepth 100000 in
theorem two_catTN (s : ByteArray) (m : Int) (w : World) : Calls Tryz.prog 164 #[.int .i64 12, rT s, rN m] w fun e w' => e = pnc 12 ∧ Ext w w' := by
  have h1 := hide (fun w => textOf_ok s w)
  have h2 := hide (fun w => textOf_no m w)
  go_enter Tryz.func164, Tryz.ntmps164
  go_wp2_with (first | (go_at_call 191; (with_reducible refine seq_gw (h1.out _) ?_); intro g1; clear h1) | (go_at_call 191; (with_reducible refine seq_pn (h2.out _) ?_); intro g2))
  exact ⟨rfl, rfl, g1.grown.trans g2.grown⟩
set_option maxHeartbeats 4000000 in
set_option maxRecDepth 100000 in
theorem two_c13nn (n m z : Int) (q : Bool) (hz : cmpV (1, n, ⟨#[]⟩) (1, m, ⟨#[]⟩) = z) (hq : (z == 0) = q) (w : World) : Calls Tryz.prog 164 #[.int .i64 13, rN n, rN m] w fun e w' => e = .returned (rN (if q then 1 else 0)) ∧ Ext w w' := by
  have h1 := hide (fun w => cmp_nn n m w)
  rw [hz] at h1
  have h2 := hide (fun w => truth_c q w)
  generalize (if q = true then (1 : Int) else 0) = y at *
  clear hz
  go_enter Tryz.func164, Tryz.ntmps164
  go_wp2_with (first | (go_at_call 224; (with_reducible refine seq_gw (h1.out _) ?_); intro g1) | (go_at_call 192; (with_reducible refine seq_gw' (h2.out _) ?_); intro g2))
  go_returns
  exact ⟨by first | rfl | simp [endX, rv], g2.grown⟩
set_option maxHeartbeats 4000000 in
set_option maxRecDepth 100000 in
theorem two_c13tt (s t : ByteArray) (hs : s.size ≤ 64) (ht : t.size ≤ 64) (z : Int) (q : Bool) (hz : cmpV (2, 0, s) (2, 0, t) = z) (hq : (z == 0) = q) (w : World) : Calls Tryz.prog 164 #[.int .i64 13, rT s, rT t] w fun e w' => e = .returned (rN (if q then 1 else 0)) ∧ Ext w w' := by
  have h1 := hide (fun w => cmp_tt s t hs ht w)
  rw [hz] at h1
  have h2 := hide (fun w => truth_c q w)
  generalize (if q = true then (1 : Int) else 0) = y at *
  clear hz
  go_enter Tryz.func164, Tryz.ntmps164
  go_wp2_with (first | (go_at_call 227; (with_reducible refine seq_gw (h1.out _) ?_); intro g1) | (go_at_call 192; (with_reducible refine seq_gw' (h2.out _) ?_); intro g2))
  go_returns
  exact ⟨by first | rfl | simp [endX, rv], g2.grown⟩
set_option maxHeartbeats 4000000 in
set_option maxRecDepth 100000 in
theorem two_c13nt (n : Int) (t : ByteArray) (w : World) : Calls Tryz.prog 164 #[.int .i64 13, rN n, rT t] w fun e w' => e = pnc 12 ∧ Ext w w' := by
  have h1 := hide (fun w => cmp_nt n t w)
  go_enter Tryz.func164, Tryz.ntmps164
  go_wp2_with (first | (go_at_call 224; (with_reducible refine seq_pn (h1.out _) ?_); intro g1))
  exact ⟨rfl, rfl, g1.grown⟩
set_option maxHeartbeats 4000000 in
set_option maxRecDepth 100000 in
theorem two_c13tn (s : ByteArray) (m : Int) (hs : s.size ≤ 64) (w : World) : Calls Tryz.prog 164 #[.int .i64 13, rT s, rN m] w fun e w' => e = pnc 12 ∧ Ext w w' := by
  have h1 := hide (fun w => cmp_tn s m hs w)
  go_enter Tryz.func164, Tryz.ntmps164
  go_wp2_with (first | (go_at_call 227; (with_reducible refine seq_pn (h1.out _) ?_); intro g1))
  exact ⟨rfl, rfl, g1.grown⟩
set_option maxHeartbeats 4000000 in
set_option maxRecDepth 100000 in
theorem two_c14nn (n m z : Int) (q : Bool) (hz : cmpV (1, n, ⟨#[]⟩) (1, m, ⟨#[]⟩) = z) (hq : (z != 0) = q) (w : World) : Calls Tryz.prog 164 #[.int .i64 14, rN n, rN m] w fun e w' => e = .returned (rN (if q then 1 else 0)) ∧ Ext w w' := by
  have h1 := hide (fun w => cmp_nn n m w)
  rw [hz] at h1
  have h2 := hide (fun w => truth_c q w)
  generalize (if q = true then (1 : Int) else 0) = y at *
  clear hz
  go_enter Tryz.func164, Tryz.ntmps164
  go_wp2_with (first | (go_at_call 224; (with_reducible refine seq_gw (h1.out _) ?_); intro g1) | (go_at_call 192; (with_reducible refine seq_gw' (h2.out _) ?_); intro g2))
  go_returns
  exact ⟨by first | rfl | simp [endX, rv], g2.grown⟩
set_option maxHeartbeats 4000000 in
set_option maxRecDepth 100000 in
theorem two_c14tt (s t : ByteArray) (hs : s.size ≤ 64) (ht : t.size ≤ 64) (z : Int) (q : Bool) (hz : cmpV (2, 0, s) (2, 0, t) = z) (hq : (z != 0) = q) (w : World) : Calls Tryz.prog 164 #[.int .i64 14, rT s, rT t] w fun e w' => e = .returned (rN (if q then 1 else 0)) ∧ Ext w w' := by
  have h1 := hide (fun w => cmp_tt s t hs ht w)
  rw [hz] at h1
  have h2 := hide (fun w => truth_c q w)
  generalize (if q = true then (1 : Int) else 0) = y at *
  clear hz
  go_enter Tryz.func164, Tryz.ntmps164
  go_wp2_with (first | (go_at_call 227; (with_reducible refine seq_gw (h1.out _) ?_); intro g1) | (go_at_call 192; (with_reducible refine seq_gw' (h2.out _) ?_); intro g2))
  go_returns
  exact ⟨by first | rfl | simp [endX, rv], g2.grown⟩
set_option maxHeartbeats 4000000 in
set_option maxRecDepth 100000 in
theorem two_c14nt (n : Int) (t : ByteArray) (w : World) : Calls Tryz.prog 164 #[.int .i64 14, rN n, rT t] w fun e w' => e = pnc 12 ∧ Ext w w' := by
  have h1 := hide (fun w => cmp_nt n t w)
  go_enter Tryz.func164, Tryz.ntmps164
  go_wp2_with (first | (go_at_call 224; (with_reducible refine seq_pn (h1.out _) ?_); intro g1))
  exact ⟨rfl, rfl, g1.grown⟩
set_option maxHeartbeats 4000000 in
set_option maxRecDepth 100000 in
theorem two_c14tn (s : ByteArray) (m : Int) (hs : s.size ≤ 64) (w : World) : Calls Tryz.prog 164 #[.int .i64 14, rT s, rN m] w fun e w' => e = pnc 12 ∧ Ext w w' := by
  have h1 := hide (fun w => cmp_tn s m hs w)
  go_enter Tryz.func164, Tryz.ntmps164
  go_wp2_with (first | (go_at_call 227; (with_reducible refine seq_pn (h1.out _) ?_); intro g1))
  exact ⟨rfl, rfl, g1.grown⟩
set_option maxHeartbeats 4000000 in
set_option maxRecDepth 100000 in
theorem two_c15nn (n m z : Int) (q : Bool) (hz : cmpV (1, n, ⟨#[]⟩) (1, m, ⟨#[]⟩) = z) (hq : decide (z < 0) = q) (w : World) : Calls Tryz.prog 164 #[.int .i64 15, rN n, rN m] w fun e w' => e = .returned (rN (if q then 1 else 0)) ∧ Ext w w' := by
  have h1 := hide (fun w => cmp_nn n m w)
  rw [hz] at h1
  have h2 := hide (fun w => truth_c q w)
  generalize (if q = true then (1 : Int) else 0) = y at *
  clear hz
  have hq' := hq
  go_enter Tryz.func164, Tryz.ntmps164
  go_wp2_with (first | (go_at_call 224; (with_reducible refine seq_gw (h1.out _) ?_); intro g1) | (go_at_call 192; (with_reducible refine seq_gw' (h2.out _) ?_); intro g2))
  go_returns
  exact ⟨by first | rfl | simp [endX, rv], g2.grown⟩
set_option maxHeartbeats 4000000 in
set_option maxRecDepth 100000 in
theorem two_c15tt (s t : ByteArray) (hs : s.size ≤ 64) (ht : t.size ≤ 64) (z : Int) (q : Bool) (hz : cmpV (2, 0, s) (2, 0, t) = z) (hq : decide (z < 0) = q) (w : World) : Calls Tryz.prog 164 #[.int .i64 15, rT s, rT t] w fun e w' => e = .returned (rN (if q then 1 else 0)) ∧ Ext w w' := by
  have h1 := hide (fun w => cmp_tt s t hs ht w)
  rw [hz] at h1
  have h2 := hide (fun w => truth_c q w)
  generalize (if q = true then (1 : Int) else 0) = y at *
  clear hz
  have hq' := hq
  go_enter Tryz.func164, Tryz.ntmps164
  go_wp2_with (first | (go_at_call 227; (with_reducible refine seq_gw (h1.out _) ?_); intro g1) | (go_at_call 192; (with_reducible refine seq_gw' (h2.out _) ?_); intro g2))
  go_returns
  exact ⟨by first | rfl | simp [endX, rv], g2.grown⟩
set_option maxHeartbeats 4000000 in
set_option maxRecDepth 100000 in
theorem two_c15nt (n : Int) (t : ByteArray) (w : World) : Calls Tryz.prog 164 #[.int .i64 15, rN n, rT t] w fun e w' => e = pnc 12 ∧ Ext w w' := by
  have h1 := hide (fun w => cmp_nt n t w)
  go_enter Tryz.func164, Tryz.ntmps164
  go_wp2_with (first | (go_at_call 224; (with_reducible refine seq_pn (h1.out _) ?_); intro g1))
  exact ⟨rfl, rfl, g1.grown⟩
set_option maxHeartbeats 4000000 in
set_option maxRecDepth 100000 in
theorem two_c15tn (s : ByteArray) (m : Int) (hs : s.size ≤ 64) (w : World) : Calls Tryz.prog 164 #[.int .i64 15, rT s, rN m] w fun e w' => e = pnc 12 ∧ Ext w w' := by
  have h1 := hide (fun w => cmp_tn s m hs w)
  go_enter Tryz.func164, Tryz.ntmps164
  go_wp2_with (first | (go_at_call 227; (with_reducible refine seq_pn (h1.out _) ?_); intro g1))
  exact ⟨rfl, rfl, g1.grown⟩
set_option maxHeartbeats 4000000 in
set_option maxRecDepth 100000 in
theorem two_c16nn (n m z : Int) (q : Bool) (hz : cmpV (1, n, ⟨#[]⟩) (1, m, ⟨#[]⟩) = z) (hq : decide (z ≤ 0) = q) (w : World) : Calls Tryz.prog 164 #[.int .i64 16, rN n, rN m] w fun e w' => e = .returned (rN (if q then 1 else 0)) ∧ Ext w w' := by
  have h1 := hide (fun w => cmp_nn n m w)
  rw [hz] at h1
  have h2 := hide (fun w => truth_c q w)
  generalize (if q = true then (1 : Int) else 0) = y at *
  clear hz
  have hq' := hq
  go_enter Tryz.func164, Tryz.ntmps164
  go_wp2_with (first | (go_at_call 224; (with_reducible refine seq_gw (h1.out _) ?_); intro g1) | (go_at_call 192; (with_reducible refine seq_gw' (h2.out _) ?_); intro g2))
  go_returns
  exact ⟨by first | rfl | simp [endX, rv], g2.grown⟩
set_option maxHeartbeats 4000000 in
set_option maxRecDepth 100000 in
theorem two_c16tt (s t : ByteArray) (hs : s.size ≤ 64) (ht : t.size ≤ 64) (z : Int) (q : Bool) (hz : cmpV (2, 0, s) (2, 0, t) = z) (hq : decide (z ≤ 0) = q) (w : World) : Calls Tryz.prog 164 #[.int .i64 16, rT s, rT t] w fun e w' => e = .returned (rN (if q then 1 else 0)) ∧ Ext w w' := by
  have h1 := hide (fun w => cmp_tt s t hs ht w)
  rw [hz] at h1
  have h2 := hide (fun w => truth_c q w)
  generalize (if q = true then (1 : Int) else 0) = y at *
  clear hz
  have hq' := hq
  go_enter Tryz.func164, Tryz.ntmps164
  go_wp2_with (first | (go_at_call 227; (with_reducible refine seq_gw (h1.out _) ?_); intro g1) | (go_at_call 192; (with_reducible refine seq_gw' (h2.out _) ?_); intro g2))
  go_returns
  exact ⟨by first | rfl | simp [endX, rv], g2.grown⟩
set_option maxHeartbeats 4000000 in
set_option maxRecDepth 100000 in
theorem two_c16nt (n : Int) (t : ByteArray) (w : World) : Calls Tryz.prog 164 #[.int .i64 16, rN n, rT t] w fun e w' => e = pnc 12 ∧ Ext w w' := by
  have h1 := hide (fun w => cmp_nt n t w)
  go_enter Tryz.func164, Tryz.ntmps164
  go_wp2_with (first | (go_at_call 224; (with_reducible refine seq_pn (h1.out _) ?_); intro g1))
  exact ⟨rfl, rfl, g1.grown⟩
set_option maxHeartbeats 4000000 in
set_option maxRecDepth 100000 in
theorem two_c16tn (s : ByteArray) (m : Int) (hs : s.size ≤ 64) (w : World) : Calls Tryz.prog 164 #[.int .i64 16, rT s, rN m] w fun e w' => e = pnc 12 ∧ Ext w w' := by
  have h1 := hide (fun w => cmp_tn s m hs w)
  go_enter Tryz.func164, Tryz.ntmps164
  go_wp2_with (first | (go_at_call 227; (with_reducible refine seq_pn (h1.out _) ?_); intro g1))
  exact ⟨rfl, rfl, g1.grown⟩
set_option maxHeartbeats 4000000 in
set_option maxRecDepth 100000 in
theorem two_c17nn (n m z : Int) (q : Bool) (hz : cmpV (1, n, ⟨#[]⟩) (1, m, ⟨#[]⟩) = z) (hq : decide (0 < z) = q) (w : World) : Calls Tryz.prog 164 #[.int .i64 17, rN n, rN m] w fun e w' => e = .returned (rN (if q then 1 else 0)) ∧ Ext w w' := by
  have h1 := hide (fun w => cmp_nn n m w)
  rw [hz] at h1
  have h2 := hide (fun w => truth_c q w)
  generalize (if q = true then (1 : Int) else 0) = y at *
  clear hz
  have hq' := hq
  go_enter Tryz.func164, Tryz.ntmps164
  go_wp2_with (first | (go_at_call 224; (with_reducible refine seq_gw (h1.out _) ?_); intro g1) | (go_at_call 192; (with_reducible refine seq_gw' (h2.out _) ?_); intro g2))
  go_returns
  exact ⟨by first | rfl | simp [endX, rv], g2.grown⟩
set_option maxHeartbeats 4000000 in
set_option maxRecDepth 100000 in
theorem two_c17tt (s t : ByteArray) (hs : s.size ≤ 64) (ht : t.size ≤ 64) (z : Int) (q : Bool) (hz : cmpV (2, 0, s) (2, 0, t) = z) (hq : decide (0 < z) = q) (w : World) : Calls Tryz.prog 164 #[.int .i64 17, rT s, rT t] w fun e w' => e = .returned (rN (if q then 1 else 0)) ∧ Ext w w' := by
  have h1 := hide (fun w => cmp_tt s t hs ht w)
  rw [hz] at h1
  have h2 := hide (fun w => truth_c q w)
  generalize (if q = true then (1 : Int) else 0) = y at *
  clear hz
  have hq' := hq
  go_enter Tryz.func164, Tryz.ntmps164
  go_wp2_with (first | (go_at_call 227; (with_reducible refine seq_gw (h1.out _) ?_); intro g1) | (go_at_call 192; (with_reducible refine seq_gw' (h2.out _) ?_); intro g2))
  go_returns
  exact ⟨by first | rfl | simp [endX, rv], g2.grown⟩
set_option maxHeartbeats 4000000 in
set_option maxRecDepth 100000 in
theorem two_c17nt (n : Int) (t : ByteArray) (w : World) : Calls Tryz.prog 164 #[.int .i64 17, rN n, rT t] w fun e w' => e = pnc 12 ∧ Ext w w' := by
  have h1 := hide (fun w => cmp_nt n t w)
  go_enter Tryz.func164, Tryz.ntmps164
  go_wp2_with (first | (go_at_call 224; (with_reducible refine seq_pn (h1.out _) ?_); intro g1))
  exact ⟨rfl, rfl, g1.grown⟩
set_option maxHeartbeats 4000000 in
set_option maxRecDepth 100000 in
theorem two_c17tn (s : ByteArray) (m : Int) (hs : s.size ≤ 64) (w : World) : Calls Tryz.prog 164 #[.int .i64 17, rT s, rN m] w fun e w' => e = pnc 12 ∧ Ext w w' := by
  have h1 := hide (fun w => cmp_tn s m hs w)
  go_enter Tryz.func164, Tryz.ntmps164
  go_wp2_with (first | (go_at_call 227; (with_reducible refine seq_pn (h1.out _) ?_); intro g1))
  exact ⟨rfl, rfl, g1.grown⟩
set_option maxHeartbeats 4000000 in
set_option maxRecDepth 100000 in
theorem two_c18nn (n m z : Int) (q : Bool) (hz : cmpV (1, n, ⟨#[]⟩) (1, m, ⟨#[]⟩) = z) (hq : decide (0 ≤ z) = q) (w : World) : Calls Tryz.prog 164 #[.int .i64 18, rN n, rN m] w fun e w' => e = .returned (rN (if q then 1 else 0)) ∧ Ext w w' := by
  have h1 := hide (fun w => cmp_nn n m w)
  rw [hz] at h1
  have h2 := hide (fun w => truth_c q w)
  generalize (if q = true then (1 : Int) else 0) = y at *
  clear hz
  have hq' := hq
  go_enter Tryz.func164, Tryz.ntmps164
  go_wp2_with (first | (go_at_call 224; (with_reducible refine seq_gw (h1.out _) ?_); intro g1) | (go_at_call 192; (with_reducible refine seq_gw' (h2.out _) ?_); intro g2))
  go_returns
  exact ⟨by first | rfl | simp [endX, rv], g2.grown⟩
set_option maxHeartbeats 4000000 in
set_option maxRecDepth 100000 in
theorem two_c18tt (s t : ByteArray) (hs : s.size ≤ 64) (ht : t.size ≤ 64) (z : Int) (q : Bool) (hz : cmpV (2, 0, s) (2, 0, t) = z) (hq : decide (0 ≤ z) = q) (w : World) : Calls Tryz.prog 164 #[.int .i64 18, rT s, rT t] w fun e w' => e = .returned (rN (if q then 1 else 0)) ∧ Ext w w' := by
  have h1 := hide (fun w => cmp_tt s t hs ht w)
  rw [hz] at h1
  have h2 := hide (fun w => truth_c q w)
  generalize (if q = true then (1 : Int) else 0) = y at *
  clear hz
  have hq' := hq
  go_enter Tryz.func164, Tryz.ntmps164
  go_wp2_with (first | (go_at_call 227; (with_reducible refine seq_gw (h1.out _) ?_); intro g1) | (go_at_call 192; (with_reducible refine seq_gw' (h2.out _) ?_); intro g2))
  go_returns
  exact ⟨by first | rfl | simp [endX, rv], g2.grown⟩
set_option maxHeartbeats 4000000 in
set_option maxRecDepth 100000 in
theorem two_c18nt (n : Int) (t : ByteArray) (w : World) : Calls Tryz.prog 164 #[.int .i64 18, rN n, rT t] w fun e w' => e = pnc 12 ∧ Ext w w' := by
  have h1 := hide (fun w => cmp_nt n t w)
  go_enter Tryz.func164, Tryz.ntmps164
  go_wp2_with (first | (go_at_call 224; (with_reducible refine seq_pn (h1.out _) ?_); intro g1))
  exact ⟨rfl, rfl, g1.grown⟩
set_option maxHeartbeats 4000000 in
set_option maxRecDepth 100000 in
theorem two_c18tn (s : ByteArray) (m : Int) (hs : s.size ≤ 64) (w : World) : Calls Tryz.prog 164 #[.int .i64 18, rT s, rN m] w fun e w' => e = pnc 12 ∧ Ext w w' := by
  have h1 := hide (fun w => cmp_tn s m hs w)
  go_enter Tryz.func164, Tryz.ntmps164
  go_wp2_with (first | (go_at_call 227; (with_reducible refine seq_pn (h1.out _) ?_); intro g1))
  exact ⟨rfl, rfl, g1.grown⟩
set_option maxHeartbeats 4000000 in
set_option maxRecDepth 100000 in
theorem two_num (c : Int) (hc : (7 ≤ c ∧ c ≤ 11) ∨ c = 19 ∨ c = 20) (n m : Int) (u : Value) (hn : ∀ w, Calls Tryz.prog 197 #[.int .i64 c, .int .i64 n, .int .i64 m] w fun e w' => e = .returned u ∧ Ext w w') (w : World) : Calls Tryz.prog 164 #[.int .i64 c, rN n, rN m] w fun e w' => e = .returned u ∧ Ext w w' := by
  have d12 : (c == 12) = false := by rw [beq_eq_false_iff_ne]; omega
  have d13 : (c == 13) = false := by rw [beq_eq_false_iff_ne]; omega
  have d14 : (c == 14) = false := by rw [beq_eq_false_iff_ne]; omega
  have d15 : (c == 15) = false := by rw [beq_eq_false_iff_ne]; omega
  have d16 : (c == 16) = false := by rw [beq_eq_false_iff_ne]; omega
  have d17 : (c == 17) = false := by rw [beq_eq_false_iff_ne]; omega
  have d18 : (c == 18) = false := by rw [beq_eq_false_iff_ne]; omega
  clear hc
  replace hn := hide hn
  have h1 := hide (fun w => numOf_ok n w)
  have h2 := hide (fun w => numOf_ok m w)
  go_enter Tryz.func164, Tryz.ntmps164
  go_wp2_with (first | (go_at_call 193; (with_reducible refine seq_gw (h1.out _) ?_); intro g1; clear h1) | (go_at_call 193; (with_reducible refine seq_gw' (h2.out _) ?_); intro g2) | (go_at_call 197; (with_reducible refine seq_gw' (hn.out _) ?_); intro g3))
  go_returns
  exact ⟨by first | rfl | simp [endX, rv], g3.grown⟩
set_option maxHeartbeats 4000000 in
set_option maxRecDepth 100000 in
theorem two_numE (c : Int) (hc : (7 ≤ c ∧ c ≤ 11) ∨ c = 19 ∨ c = 20) (n m z : Int) (hn : ∀ w, Calls Tryz.prog 197 #[.int .i64 c, .int .i64 n, .int .i64 m] w fun e w' => e = pnc z ∧ Ext w w') (w : World) : Calls Tryz.prog 164 #[.int .i64 c, rN n, rN m] w fun e w' => e = pnc z ∧ Ext w w' := by
  have d12 : (c == 12) = false := by rw [beq_eq_false_iff_ne]; omega
  have d13 : (c == 13) = false := by rw [beq_eq_false_iff_ne]; omega
  have d14 : (c == 14) = false := by rw [beq_eq_false_iff_ne]; omega
  have d15 : (c == 15) = false := by rw [beq_eq_false_iff_ne]; omega
  have d16 : (c == 16) = false := by rw [beq_eq_false_iff_ne]; omega
  have d17 : (c == 17) = false := by rw [beq_eq_false_iff_ne]; omega
  have d18 : (c == 18) = false := by rw [beq_eq_false_iff_ne]; omega
  clear hc
  replace hn := hide hn
  have h1 := hide (fun w => numOf_ok n w)
  have h2 := hide (fun w => numOf_ok m w)
  go_enter Tryz.func164, Tryz.ntmps164
  go_wp2_with (first | (go_at_call 193; (with_reducible refine seq_gw (h1.out _) ?_); intro g1; clear h1) | (go_at_call 193; (with_reducible refine seq_gw' (h2.out _) ?_); intro g2) | (go_at_call 197; (with_reducible refine seq_pn (hn.out _) ?_); intro g3))
  exact ⟨rfl, rfl, g2.grown.trans g3.grown⟩
set_option maxHeartbeats 4000000 in
set_option maxRecDepth 100000 in
theorem two_numT (c : Int) (hc : (7 ≤ c ∧ c ≤ 11) ∨ c = 19 ∨ c = 20) (s : ByteArray) (b : Value) (w : World) : Calls Tryz.prog 164 #[.int .i64 c, rT s, b] w fun e w' => e = pnc 12 ∧ Ext w w' := by
  have d12 : (c == 12) = false := by rw [beq_eq_false_iff_ne]; omega
  have d13 : (c == 13) = false := by rw [beq_eq_false_iff_ne]; omega
  have d14 : (c == 14) = false := by rw [beq_eq_false_iff_ne]; omega
  have d15 : (c == 15) = false := by rw [beq_eq_false_iff_ne]; omega
  have d16 : (c == 16) = false := by rw [beq_eq_false_iff_ne]; omega
  have d17 : (c == 17) = false := by rw [beq_eq_false_iff_ne]; omega
  have d18 : (c == 18) = false := by rw [beq_eq_false_iff_ne]; omega
  clear hc
  have h1 := hide (fun w => numOf_no s w)
  go_enter Tryz.func164, Tryz.ntmps164
  go_wp2_with (first | (go_at_call 193; (with_reducible refine seq_pn (h1.out _) ?_); intro g1))
  exact ⟨rfl, rfl, g1.grown⟩
set_option maxHeartbeats 4000000 in
set_option maxRecDepth 100000 in
theorem two_numNT (c : Int) (hc : (7 ≤ c ∧ c ≤ 11) ∨ c = 19 ∨ c = 20) (n : Int) (t : ByteArray) (w : World) : Calls Tryz.prog 164 #[.int .i64 c, rN n, rT t] w fun e w' => e = pnc 12 ∧ Ext w w' := by
  have d12 : (c == 12) = false := by rw [beq_eq_false_iff_ne]; omega
  have d13 : (c == 13) = false := by rw [beq_eq_false_iff_ne]; omega
  have d14 : (c == 14) = false := by rw [beq_eq_false_iff_ne]; omega
  have d15 : (c == 15) = false := by rw [beq_eq_false_iff_ne]; omega
  have d16 : (c == 16) = false := by rw [beq_eq_false_iff_ne]; omega
  have d17 : (c == 17) = false := by rw [beq_eq_false_iff_ne]; omega
  have d18 : (c == 18) = false := by rw [beq_eq_false_iff_ne]; omega
  clear hc
  have h1 := hide (fun w => numOf_ok n w)
  have h2 := hide (fun w => numOf_no t w)
  go_enter Tryz.func164, Tryz.ntmps164
  go_wp2_with (first | (go_at_call 193; (with_reducible refine seq_gw (h1.out _) ?_); intro g1; clear h1) | (go_at_call 193; (with_reducible refine seq_pn (h2.out _) ?_); intro g2))
  exact ⟨rfl, rfl, g1.grown.trans g2.grown⟩
end Go.Proofs.YtljkneajdndgjabGreat
