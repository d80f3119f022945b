/-
  A helper of ours: no claim of its own. Layer 18 (eval): what each word makes of results, by the code.
-/
import Derived.Test.YtljkneajdndgjabGreatExpA
import Derived.Test.YtljkneajdndgjabGreatNumC
import Derived.Test.YtljkneajdndgjabGreatRowA
set_option linter.unusedVariables false
set_option linter.unusedSimpArgs false
namespace Go.Proofs.YtljkneajdndgjabGreat
open Go.RowKit
attribute [local go_sem] GW.cell GW.frozen In.eq_true In.le_true In.ne In.ne' In.ne_add In.ne_add' In.lt_add Upto.le_true Upto.le_add Upto.lt_add
/-- A value as a result. -/
def rv (v : Vl) : Value := if v.1 = 2 then rT v.2.2 else rN v.2.1
/-- How a call ends that answers, or stops. -/
def endX : Except Int Vl → Ending := fun x => match x with
  | .ok v => .returned (rv v)
  | .error c => pnc c
set_option maxHeartbeats 4000000 in
set_option maxRecDepth 100000 in
theorem cmp_nn (n m : Int) (w : World) : Calls Tryz.prog 224 #[.int .i64 n, rN m] w fun e w' => e = .returned (.int .i64 (cmpV (1, n, ⟨#[]⟩) (1, m, ⟨#[]⟩))) ∧ Ext w w' := by
  have h1 := hide (fun w => nval_c n w)
  have h2 := hide (fun w => numOf_ok m w)
  have h3 := hide (fun w => nval_c m w)
  have h4 := hide (fun w => compare_c 1 n 1 m ⟨#[]⟩ ⟨#[]⟩ w)
  generalize cmpV (1, n, ⟨#[]⟩) (1, m, ⟨#[]⟩) = z at *
  go_enter Tryz.func224, Tryz.ntmps224
  go_wp2_with (first | (go_at_call 225; (with_reducible refine seq_gw (h1.out _) ?_); intro g1; clear h1) | (go_at_call 193; (with_reducible refine seq_gw' (h2.out _) ?_); intro g2) | (go_at_call 225; (with_reducible refine seq_gw' (h3.out _) ?_); intro g3) | (go_at_call 142; (with_reducible refine seq_gw' (h4.out _) ?_); intro g4))
  go_returns
  exact ⟨rfl, g4.grown⟩
set_option maxHeartbeats 4000000 in
set_option maxRecDepth 100000 in
theorem cmp_nt (n : Int) (t : ByteArray) (w : World) : Calls Tryz.prog 224 #[.int .i64 n, rT t] w fun e w' => e = pnc 12 ∧ Ext w w' := by
  have h1 := hide (fun w => nval_c n w)
  have h2 := hide (fun w => numOf_no t w)
  go_enter Tryz.func224, Tryz.ntmps224
  go_wp2_with (first | (go_at_call 225; (with_reducible refine seq_gw (h1.out _) ?_); intro g1; clear h1) | (go_at_call 193; (with_reducible refine seq_pn (h2.out _) ?_); intro g2))
  exact ⟨rfl, rfl, g1.grown.trans g2.grown⟩
set_option maxHeartbeats 4000000 in
set_option maxRecDepth 100000 in
theorem cmp_tt (s t : ByteArray) (hs : s.size ≤ 64) (ht : t.size ≤ 64) (w : World) : Calls Tryz.prog 227 #[.string s, rT t] w fun e w' => e = .returned (.int .i64 (cmpV (2, 0, s) (2, 0, t))) ∧ Ext w w' := by
  have h1 := hide (fun w => tval_c s hs w)
  have h2 := hide (fun w => textOf_ok t w)
  have h3 := hide (fun w => tval_c t ht w)
  have h4 := hide (fun w => compare_c 2 0 2 0 s t w)
  generalize cmpV (2, 0, s) (2, 0, t) = z at *
  go_enter Tryz.func227, Tryz.ntmps227
  go_wp2_with (first | (go_at_call 228; (with_reducible refine seq_gw (h1.out _) ?_); intro g1; clear h1) | (go_at_call 191; (with_reducible refine seq_gw' (h2.out _) ?_); intro g2) | (go_at_call 228; (with_reducible refine seq_gw' (h3.out _) ?_); intro g3) | (go_at_call 142; (with_reducible refine seq_gw' (h4.out _) ?_); intro g4))
  go_returns
  exact ⟨rfl, g4.grown⟩
set_option maxHeartbeats 4000000 in
set_option maxRecDepth 100000 in
theorem cmp_tn (s : ByteArray) (m : Int) (hs : s.size ≤ 64) (w : World) : Calls Tryz.prog 227 #[.string s, rN m] w fun e w' => e = pnc 12 ∧ Ext w w' := by
  have h1 := hide (fun w => tval_c s hs w)
  have h2 := hide (fun w => textOf_no m w)
  go_enter Tryz.func227, Tryz.ntmps227
  go_wp2_with (first | (go_at_call 228; (with_reducible refine seq_gw (h1.out _) ?_); intro g1; clear h1) | (go_at_call 191; (with_reducible refine seq_pn (h2.out _) ?_); intro g2))
  exact ⟨rfl, rfl, g1.grown.trans g2.grown⟩
set_option maxHeartbeats 4000000 in
set_option maxRecDepth 100000 in
theorem one_len (s : ByteArray) (w : World) : Calls Tryz.prog 163 #[.int .i64 6, rT s] w fun e w' => e = .returned (rN (s.size : Int)) ∧ Ext w w' := by
  have h1 := hide (fun w => textOf_ok s w)
  go_enter Tryz.func163, Tryz.ntmps163
  go_wp2_with (first | (go_at_call 191; (with_reducible refine seq_gw (h1.out _) ?_); intro g1))
  go_returns
  exact ⟨by first | rfl | simp [endX, rv], g1.grown⟩
set_option maxHeartbeats 4000000 in
set_option maxRecDepth 100000 in
theorem one_lenN (n : Int) (w : World) : Calls Tryz.prog 163 #[.int .i64 6, rN n] w fun e w' => e = pnc 12 ∧ Ext w w' := by
  have h1 := hide (fun w => textOf_no n w)
  go_enter Tryz.func163, Tryz.ntmps163
  go_wp2_with (first | (go_at_call 191; (with_reducible refine seq_pn (h1.out _) ?_); intro g1))
  exact ⟨rfl, rfl, g1.grown⟩
set_option maxHeartbeats 4000000 in
set_option maxRecDepth 100000 in
theorem one_not (n : Int) (z : Bool) (hz : (n == 0) = z) (w : World) : Calls Tryz.prog 163 #[.int .i64 5, rN n] w fun e w' => e = .returned (rN (if z then 1 else 0)) ∧ Ext w w' := by
  have h1 := hide (fun w => numOf_ok n w)
  have h2 := hide (fun w => truth_c z w)
  generalize (if z = true then (1 : Int) else 0) = y at *
  go_enter Tryz.func163, Tryz.ntmps163
  go_wp2_with (first | (go_at_call 193; (with_reducible refine seq_gw (h1.out _) ?_); intro g1) | (go_at_call 192; (with_reducible refine seq_gw' (h2.out _) ?_); intro g2))
  go_returns
  exact ⟨by first | rfl | simp [endX, rv], g2.grown⟩
set_option maxHeartbeats 4000000 in
set_option maxRecDepth 100000 in
theorem one_noT5 (s : ByteArray) (w : World) : Calls Tryz.prog 163 #[.int .i64 5, rT s] w fun e w' => e = pnc 12 ∧ Ext w w' := by
  have h1 := hide (fun w => numOf_no s w)
  go_enter Tryz.func163, Tryz.ntmps163
  go_wp2_with (first | (go_at_call 193; (with_reducible refine seq_pn (h1.out _) ?_); intro g1))
  exact ⟨rfl, rfl, g1.grown⟩
set_option maxHeartbeats 4000000 in
set_option maxRecDepth 100000 in
theorem one_noT4 (s : ByteArray) (w : World) : Calls Tryz.prog 163 #[.int .i64 4, rT s] w fun e w' => e = pnc 12 ∧ Ext w w' := by
  have h1 := hide (fun w => numOf_no s w)
  go_enter Tryz.func163, Tryz.ntmps163
  go_wp2_with (first | (go_at_call 193; (with_reducible refine seq_pn (h1.out _) ?_); intro g1))
  exact ⟨rfl, rfl, g1.grown⟩
set_option maxHeartbeats 4000000 in
set_option maxRecDepth 100000 in
theorem one_neg (n v : Int) (hn : ∀ w, Calls Tryz.prog 195 #[.int .i64 n] w fun e w' => e = .returned (.tuple #[.int .i64 v, .int .i64 0]) ∧ Ext w w') (w : World) : Calls Tryz.prog 163 #[.int .i64 4, rN n] w fun e w' => e = .returned (rN v) ∧ Ext w w' := by
  have h1 := hide (fun w => numOf_ok n w)
  replace hn := hide hn
  have h3 := hide (fun w => exact_ok v w)
  go_enter Tryz.func163, Tryz.ntmps163
  go_wp2_with (first | (go_at_call 193; (with_reducible refine seq_gw (h1.out _) ?_); intro g1) | (go_at_call 195; (with_reducible refine seq_gw' (hn.out _) ?_); intro g2) | (go_at_call 194; (with_reducible refine seq_gw' (h3.out _) ?_); intro g3))
  go_returns
  exact ⟨by first | rfl | simp [endX, rv], g3.grown⟩
set_option maxHeartbeats 4000000 in
set_option maxRecDepth 100000 in
theorem one_negE (n v c : Int) (hc : c ≠ 0) (hn : ∀ w, Calls Tryz.prog 195 #[.int .i64 n] w fun e w' => e = .returned (.tuple #[.int .i64 v, .int .i64 c]) ∧ Ext w w') (w : World) : Calls Tryz.prog 163 #[.int .i64 4, rN n] w fun e w' => e = pnc c ∧ Ext w w' := by
  have h1 := hide (fun w => numOf_ok n w)
  replace hn := hide hn
  have h3 := hide (fun w => exact_no v c hc w)
  clear hc
  go_enter Tryz.func163, Tryz.ntmps163
  go_wp2_with (first | (go_at_call 193; (with_reducible refine seq_gw (h1.out _) ?_); intro g1) | (go_at_call 195; (with_reducible refine seq_gw' (hn.out _) ?_); intro g2) | (go_at_call 194; (with_reducible refine seq_pn (h3.out _) ?_); intro g3))
  exact ⟨rfl, rfl, g2.grown.trans g3.grown⟩
theorem ofOne_c (c : Int) (hc : tkI c = 1) (a : Vl) (ha : fine a) (w : World) : Calls Tryz.prog 163 #[.int .i64 c, rv a] w fun e w' => e = endX (ofOne c a) ∧ Ext w w' := by
  have h456 := tkI_iff1.1 hc
  rcases fine_cases ha with ⟨n, rfl, hn⟩ | ⟨s, rfl, hs⟩
  · have c3 : c = 4 ∨ c = 5 ∨ c = 6 := by omega
    rcases c3 with rfl | rfl | rfl
    · have h := neg_c n hn
      by_cases he : inR (-n) = true
      · rw [he] at h
        have := one_neg n _ h w
        have e : ofOne 4 (1, n, ⟨#[]⟩) = .ok (1, okF true (-n), ⟨#[]⟩) := by unfold ofOne; rw [if_neg (by decide), if_pos rfl, if_neg (by decide)]; simp only [he]; rfl
        rw [e]; exact this
      · have he' : inR (-n) = false := by simpa using he
        rw [he'] at h
        have := one_negE n _ _ (by decide) h w
        have e : ofOne 4 (1, n, ⟨#[]⟩) = .error 10 := by unfold ofOne; rw [if_neg (by decide), if_pos rfl, if_neg (by decide)]; simp only [he']; rfl
        rw [e]; exact this
    · have := one_not n (decide (n = 0)) rfl w
      exact this
    · exact one_lenN n w
  · have c3 : c = 4 ∨ c = 5 ∨ c = 6 := by omega
    rcases c3 with rfl | rfl | rfl
    · exact one_noT4 s w
    · exact one_noT5 s w
    · exact one_len s w
theorem rv_num (n : Int) (s : ByteArray) : rv (1, n, s) = rN n := rfl
theorem rv_text (n : Int) (s : ByteArray) : rv (2, n, s) = rT s := rfl
set_option maxHeartbeats 4000000 in
set_option maxRecDepth 100000 in
theorem resultOf_c (v : Vl) (hv : fine v) (w : World) : Calls Tryz.prog 190 #[val v.1 v.2.1 v.2.2] w fun e w' => e = .returned (rv v) ∧ Ext w w' := by
  rcases fine_cases hv with ⟨n, rfl, hn⟩ | ⟨s, rfl, hs⟩
  · clear hv hn
    rw [rv_num]
    go_enter Tryz.func190, Tryz.ntmps190
    go_wp2_with fail
    go_returns
    exact ⟨rfl, (Ext.refl w).alloc _⟩
  · clear hv hs
    rw [rv_text]
    go_enter Tryz.func190, Tryz.ntmps190
    go_wp2_with fail
    go_returns
    exact ⟨rfl, (Ext.refl w).alloc _⟩
set_option maxHeartbeats 4000000 in
set_option maxRecDepth 100000 in
theorem ofNone_c (r : List Vl) (hr : ∀ v ∈ r, fine v) (c n : Int) (x : ByteArray) (ho : okW (c, n, x) = true) (hc : tkI c = 0) (rvv : Value) (w : World) (h : Rw w [] rvv r) : Calls Tryz.prog 162 #[val c n x, rvv] w fun e w' => e = endX (ofNone r (c, n, x)) ∧ Ext w w' := by
  obtain ⟨A, cap, rfl, hl, hm, hat⟩ := rw_form h
  unfold maxLen at hm
  have h13 := tkI_iff0.1 hc
  have c3 : c = 1 ∨ c = 2 ∨ c = 3 := by omega
  clear h hc h13
  rcases c3 with rfl | rfl | rfl
  · have e : endX (ofNone r (1, n, x)) = .returned (rN n) := rfl
    rw [e]
    clear hat ho e
    go_enter Tryz.func162, Tryz.ntmps162
    go_wp2_with fail
    go_returns
    exact ⟨rfl, (Ext.refl w).alloc _⟩
  · have e : endX (ofNone r (2, n, x)) = .returned (rT x) := rfl
    rw [e]
    clear hat ho e
    go_enter Tryz.func162, Tryz.ntmps162
    go_wp2_with fail
    go_returns
    exact ⟨rfl, (Ext.refl w).alloc _⟩
  · have hn8 : 0 ≤ n ∧ n < 8 := by rw [okW_3, Bool.and_eq_true, decide_eq_true_iff] at ho; exact ho.1
    obtain ⟨i, rfl⟩ := Int.eq_ofNat_of_zero_le hn8.1
    by_cases hi : i < r.length
    · obtain ⟨y, hy⟩ : ∃ y, r[i]? = some y := ⟨_, List.getElem?_eq_getElem hi⟩
      have e : endX (ofNone r (3, (i : Int), x)) = .returned (rv y) := by unfold ofNone; rw [if_neg (show ¬ (3 : Int) = 1 by decide), if_neg (show ¬ (3 : Int) = 2 by decide)]; simp only [Int.toNat_natCast]; rw [hy]; rfl
      rw [e]
      have hres := hide (fun w => resultOf_c y (hr y (List.mem_of_getElem? hy)) w)
      obtain ⟨b, o, rfl, -, hb, c0, c1, c2⟩ := hat i y hy
      have hiI : ¬ (r.length : Int) ≤ (i : Int) := by omega
      have hiI' : (i : Int) < r.length := by omega
      generalize rv y = z at *
      obtain ⟨yk, yn, ys⟩ := y
      clear hat e hy ho hr
      go_enter Tryz.func162, Tryz.ntmps162
      go_wp2_with (go_at_call 190; (with_reducible refine seq_gw (hres.out _) ?_); intro g)
      go_returns
      exact ⟨rfl, ((Ext.refl w).alloc _).trans g.grown⟩
    · have e : endX (ofNone r (3, (i : Int), x)) = pnc 3 := by unfold ofNone; rw [if_neg (show ¬ (3 : Int) = 1 by decide), if_neg (show ¬ (3 : Int) = 2 by decide)]; simp only [Int.toNat_natCast]; rw [List.getElem?_eq_none (by omega)]; rfl
      rw [e]
      have hiI : (r.length : Int) ≤ (i : Int) := by omega
      clear hat e ho hr
      go_enter Tryz.func162, Tryz.ntmps162
      go_wp2_with fail
      exact ⟨rfl, rfl, (Ext.refl w).alloc _⟩
set_option maxHeartbeats 4000000 in
set_option maxRecDepth 100000 in
theorem nums7 (a b v : Int) (hn : ∀ w, Calls Tryz.prog 202 #[.int .i64 a, .int .i64 b] w fun e w' => e = .returned (.tuple #[.int .i64 v, .int .i64 0]) ∧ Ext w w') (w : World) : Calls Tryz.prog 197 #[.int .i64 7, .int .i64 a, .int .i64 b] w fun e w' => e = .returned (rN v) ∧ Ext w w' := by
  replace hn := hide hn
  have h3 := hide (fun w => exact_ok v w)
  go_enter Tryz.func197, Tryz.ntmps197
  go_wp2_with (first | (go_at_call 202; (with_reducible refine seq_gw (hn.out _) ?_); intro g2) | (go_at_call 194; (with_reducible refine seq_gw' (h3.out _) ?_); intro g3))
  go_returns
  exact ⟨rfl, g3.grown⟩
set_option maxHeartbeats 4000000 in
set_option maxRecDepth 100000 in
theorem nums7E (a b v c : Int) (hc : c ≠ 0) (hn : ∀ w, Calls Tryz.prog 202 #[.int .i64 a, .int .i64 b] w fun e w' => e = .returned (.tuple #[.int .i64 v, .int .i64 c]) ∧ Ext w w') (w : World) : Calls Tryz.prog 197 #[.int .i64 7, .int .i64 a, .int .i64 b] w fun e w' => e = pnc c ∧ Ext w w' := by
  replace hn := hide hn
  have h3 := hide (fun w => exact_no v c hc w)
  clear hc
  go_enter Tryz.func197, Tryz.ntmps197
  go_wp2_with (first | (go_at_call 202; (with_reducible refine seq_gw (hn.out _) ?_); intro g2) | (go_at_call 194; (with_reducible refine seq_pn (h3.out _) ?_); intro g3))
  exact ⟨rfl, rfl, g2.grown.trans g3.grown⟩
set_option maxHeartbeats 4000000 in
set_option maxRecDepth 100000 in
theorem nums8 (a b v : Int) (hn : ∀ w, Calls Tryz.prog 203 #[.int .i64 a, .int .i64 b] w fun e w' => e = .returned (.tuple #[.int .i64 v, .int .i64 0]) ∧ Ext w w') (w : World) : Calls Tryz.prog 197 #[.int .i64 8, .int .i64 a, .int .i64 b] w fun e w' => e = .returned (rN v) ∧ Ext w w' := by
  replace hn := hide hn
  have h3 := hide (fun w => exact_ok v w)
  go_enter Tryz.func197, Tryz.ntmps197
  go_wp2_with (first | (go_at_call 203; (with_reducible refine seq_gw (hn.out _) ?_); intro g2) | (go_at_call 194; (with_reducible refine seq_gw' (h3.out _) ?_); intro g3))
  go_returns
  exact ⟨rfl, g3.grown⟩
set_option maxHeartbeats 4000000 in
set_option maxRecDepth 100000 in
theorem nums8E (a b v c : Int) (hc : c ≠ 0) (hn : ∀ w, Calls Tryz.prog 203 #[.int .i64 a, .int .i64 b] w fun e w' => e = .returned (.tuple #[.int .i64 v, .int .i64 c]) ∧ Ext w w') (w : World) : Calls Tryz.prog 197 #[.int .i64 8, .int .i64 a, .int .i64 b] w fun e w' => e = pnc c ∧ Ext w w' := by
  replace hn := hide hn
  have h3 := hide (fun w => exact_no v c hc w)
  clear hc
  go_enter Tryz.func197, Tryz.ntmps197
  go_wp2_with (first | (go_at_call 203; (with_reducible refine seq_gw (hn.out _) ?_); intro g2) | (go_at_call 194; (with_reducible refine seq_pn (h3.out _) ?_); intro g3))
  exact ⟨rfl, rfl, g2.grown.trans g3.grown⟩
set_option maxHeartbeats 4000000 in
set_option maxRecDepth 100000 in
theorem nums9 (a b v : Int) (hn : ∀ w, Calls Tryz.prog 204 #[.int .i64 a, .int .i64 b] w fun e w' => e = .returned (.tuple #[.int .i64 v, .int .i64 0]) ∧ Ext w w') (w : World) : Calls Tryz.prog 197 #[.int .i64 9, .int .i64 a, .int .i64 b] w fun e w' => e = .returned (rN v) ∧ Ext w w' := by
  replace hn := hide hn
  have h3 := hide (fun w => exact_ok v w)
  go_enter Tryz.func197, Tryz.ntmps197
  go_wp2_with (first | (go_at_call 204; (with_reducible refine seq_gw (hn.out _) ?_); intro g2) | (go_at_call 194; (with_reducible refine seq_gw' (h3.out _) ?_); intro g3))
  go_returns
  exact ⟨rfl, g3.grown⟩
set_option maxHeartbeats 4000000 in
set_option maxRecDepth 100000 in
theorem nums9E (a b v c : Int) (hc : c ≠ 0) (hn : ∀ w, Calls Tryz.prog 204 #[.int .i64 a, .int .i64 b] w fun e w' => e = .returned (.tuple #[.int .i64 v, .int .i64 c]) ∧ Ext w w') (w : World) : Calls Tryz.prog 197 #[.int .i64 9, .int .i64 a, .int .i64 b] w fun e w' => e = pnc c ∧ Ext w w' := by
  replace hn := hide hn
  have h3 := hide (fun w => exact_no v c hc w)
  clear hc
  go_enter Tryz.func197, Tryz.ntmps197
  go_wp2_with (first | (go_at_call 204; (with_reducible refine seq_gw (hn.out _) ?_); intro g2) | (go_at_call 194; (with_reducible refine seq_pn (h3.out _) ?_); intro g3))
  exact ⟨rfl, rfl, g2.grown.trans g3.grown⟩
set_option maxHeartbeats 4000000 in
set_option maxRecDepth 100000 in
theorem nums10 (a b v : Int) (hn : ∀ w, Calls Tryz.prog 205 #[.int .i64 a, .int .i64 b] w fun e w' => e = .returned (.tuple #[.int .i64 v, .int .i64 0]) ∧ Ext w w') (w : World) : Calls Tryz.prog 197 #[.int .i64 10, .int .i64 a, .int .i64 b] w fun e w' => e = .returned (rN v) ∧ Ext w w' := by
  replace hn := hide hn
  have h3 := hide (fun w => exact_ok v w)
  go_enter Tryz.func197, Tryz.ntmps197
  go_wp2_with (first | (go_at_call 205; (with_reducible refine seq_gw (hn.out _) ?_); intro g2) | (go_at_call 194; (with_reducible refine seq_gw' (h3.out _) ?_); intro g3))
  go_returns
  exact ⟨rfl, g3.grown⟩
set_option maxHeartbeats 4000000 in
set_option maxRecDepth 100000 in
theorem nums10E (a b v c : Int) (hc : c ≠ 0) (hn : ∀ w, Calls Tryz.prog 205 #[.int .i64 a, .int .i64 b] w fun e w' => e = .returned (.tuple #[.int .i64 v, .int .i64 c]) ∧ Ext w w') (w : World) : Calls Tryz.prog 197 #[.int .i64 10, .int .i64 a, .int .i64 b] w fun e w' => e = pnc c ∧ Ext w w' := by
  replace hn := hide hn
  have h3 := hide (fun w => exact_no v c hc w)
  clear hc
  go_enter Tryz.func197, Tryz.ntmps197
  go_wp2_with (first | (go_at_call 205; (with_reducible refine seq_gw (hn.out _) ?_); intro g2) | (go_at_call 194; (with_reducible refine seq_pn (h3.out _) ?_); intro g3))
  exact ⟨rfl, rfl, g2.grown.trans g3.grown⟩
set_option maxHeartbeats 4000000 in
set_option maxRecDepth 100000 in
theorem nums11 (a b v : Int) (hn : ∀ w, Calls Tryz.prog 206 #[.int .i64 a, .int .i64 b] w fun e w' => e = .returned (.tuple #[.int .i64 v, .int .i64 0]) ∧ Ext w w') (w : World) : Calls Tryz.prog 197 #[.int .i64 11, .int .i64 a, .int .i64 b] w fun e w' => e = .returned (rN v) ∧ Ext w w' := by
  replace hn := hide hn
  have h3 := hide (fun w => exact_ok v w)
  go_enter Tryz.func197, Tryz.ntmps197
  go_wp2_with (first | (go_at_call 206; (with_reducible refine seq_gw (hn.out _) ?_); intro g2) | (go_at_call 194; (with_reducible refine seq_gw' (h3.out _) ?_); intro g3))
  go_returns
  exact ⟨rfl, g3.grown⟩
set_option maxHeartbeats 4000000 in
set_option maxRecDepth 100000 in
theorem nums11E (a b v c : Int) (hc : c ≠ 0) (hn : ∀ w, Calls Tryz.prog 206 #[.int .i64 a, .int .i64 b] w fun e w' => e = .returned (.tuple #[.int .i64 v, .int .i64 c]) ∧ Ext w w') (w : World) : Calls Tryz.prog 197 #[.int .i64 11, .int .i64 a, .int .i64 b] w fun e w' => e = pnc c ∧ Ext w w' := by
  replace hn := hide hn
  have h3 := hide (fun w => exact_no v c hc w)
  clear hc
  go_enter Tryz.func197, Tryz.ntmps197
  go_wp2_with (first | (go_at_call 206; (with_reducible refine seq_gw (hn.out _) ?_); intro g2) | (go_at_call 194; (with_reducible refine seq_pn (h3.out _) ?_); intro g3))
  exact ⟨rfl, rfl, g2.grown.trans g3.grown⟩
set_option maxHeartbeats 4000000 in
set_option maxRecDepth 100000 in
theorem nums19 (a b : Int) (w : World) : Calls Tryz.prog 197 #[.int .i64 19, .int .i64 a, .int .i64 b] w fun e w' => e = .returned (rv (truV (decide (a ≠ 0) && decide (b ≠ 0)))) ∧ Ext w w' := by
  have ht := hide (fun z w => truth_c z w)
  by_cases ha : a = 0 <;> by_cases hb : b = 0
  · subst ha
    subst hb
    rw [show (decide ((0 : Int) ≠ 0) && decide ((0 : Int) ≠ 0)) = false by simp]
    replace ht := hide (fun w => ht.out false w)
    go_enter Tryz.func197, Tryz.ntmps197
    go_wp2_with (go_at_call 192; (with_reducible refine seq_gw (ht.out _) ?_); intro g2)
    go_returns
    exact ⟨by first | rfl | simp, g2.grown⟩
  · subst ha
    have eb : (b != 0) = true := by rw [bne_iff_ne]; exact hb
    rw [show (decide ((0 : Int) ≠ 0) && decide (b ≠ 0)) = false by simp [hb]]
    replace ht := hide (fun w => ht.out false w)
    clear hb
    go_enter Tryz.func197, Tryz.ntmps197
    go_wp2_with (go_at_call 192; (with_reducible refine seq_gw (ht.out _) ?_); intro g2)
    go_returns
    exact ⟨by first | rfl | simp, g2.grown⟩
  · have ea : (a != 0) = true := by rw [bne_iff_ne]; exact ha
    subst hb
    rw [show (decide (a ≠ 0) && decide ((0 : Int) ≠ 0)) = false by simp [ha]]
    replace ht := hide (fun w => ht.out false w)
    clear ha
    go_enter Tryz.func197, Tryz.ntmps197
    go_wp2_with (go_at_call 192; (with_reducible refine seq_gw (ht.out _) ?_); intro g2)
    go_returns
    exact ⟨by first | rfl | simp, g2.grown⟩
  · have ea : (a != 0) = true := by rw [bne_iff_ne]; exact ha
    have eb : (b != 0) = true := by rw [bne_iff_ne]; exact hb
    rw [show (decide (a ≠ 0) && decide (b ≠ 0)) = true by simp [ha, hb]]
    replace ht := hide (fun w => ht.out true w)
    clear ha
    clear hb
    go_enter Tryz.func197, Tryz.ntmps197
    go_wp2_with (go_at_call 192; (with_reducible refine seq_gw (ht.out _) ?_); intro g2)
    go_returns
    exact ⟨by first | rfl | simp, g2.grown⟩
set_option maxHeartbeats 4000000 in
set_option maxRecDepth 100000 in
theorem nums20 (a b : Int) (w : World) : Calls Tryz.prog 197 #[.int .i64 20, .int .i64 a, .int .i64 b] w fun e w' => e = .returned (rv (truV (decide (a ≠ 0) || decide (b ≠ 0)))) ∧ Ext w w' := by
  have ht := hide (fun z w => truth_c z w)
  by_cases ha : a = 0 <;> by_cases hb : b = 0
  · subst ha
    subst hb
    rw [show (decide ((0 : Int) ≠ 0) || decide ((0 : Int) ≠ 0)) = false by simp]
    replace ht := hide (fun w => ht.out false w)
    go_enter Tryz.func197, Tryz.ntmps197
    go_wp2_with (go_at_call 192; (with_reducible refine seq_gw (ht.out _) ?_); intro g2)
    go_returns
    exact ⟨by first | rfl | simp, g2.grown⟩
  · subst ha
    have eb : (b != 0) = true := by rw [bne_iff_ne]; exact hb
    rw [show (decide ((0 : Int) ≠ 0) || decide (b ≠ 0)) = true by simp [hb]]
    replace ht := hide (fun w => ht.out true w)
    clear hb
    go_enter Tryz.func197, Tryz.ntmps197
    go_wp2_with (go_at_call 192; (with_reducible refine seq_gw (ht.out _) ?_); intro g2)
    go_returns
    exact ⟨by first | rfl | simp, g2.grown⟩
  · have ea : (a != 0) = true := by rw [bne_iff_ne]; exact ha
    subst hb
    rw [show (decide (a ≠ 0) || decide ((0 : Int) ≠ 0)) = true by simp [ha]]
    replace ht := hide (fun w => ht.out true w)
    clear ha
    go_enter Tryz.func197, Tryz.ntmps197
    go_wp2_with (go_at_call 192; (with_reducible refine seq_gw (ht.out _) ?_); intro g2)
    go_returns
    exact ⟨by first | rfl | simp, g2.grown⟩
  · have ea : (a != 0) = true := by rw [bne_iff_ne]; exact ha
    have eb : (b != 0) = true := by rw [bne_iff_ne]; exact hb
    rw [show (decide (a ≠ 0) || decide (b ≠ 0)) = true by simp [ha, hb]]
    replace ht := hide (fun w => ht.out true w)
    clear ha
    clear hb
    go_enter Tryz.func197, Tryz.ntmps197
    go_wp2_with (go_at_call 192; (with_reducible refine seq_gw (ht.out _) ?_); intro g2)
    go_returns
    exact ⟨by first | rfl | simp, g2.grown⟩
end Go.Proofs.YtljkneajdndgjabGreat
