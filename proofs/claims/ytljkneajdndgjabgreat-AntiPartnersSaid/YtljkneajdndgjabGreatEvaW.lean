/-
  A helper of ours: no claim of its own. Layer 18 (eval): what a word of none, or of one, makes of values, by the document.
-/
import Derived.Test.YtljkneajdndgjabGreatEvaV
set_option linter.unusedVariables false
set_option linter.unusedSimpArgs false
namespace Go.Proofs.YtljkneajdndgjabGreat
open Go.RowKit
attribute [local go_sem] GW.cell GW.frozen In.eq_true In.le_true In.ne In.ne' In.ne_add In.ne_add' In.lt_add Upto.le_true Upto.le_add Upto.lt_add
set_option maxHeartbeats 4000000 in
set_option maxRecDepth 100000 in
theorem one_num (n : Int) (x : ByteArray) (ak an : Int) (as' : ByteArray) (rvv : Value) (w : World) : Calls Tryz.prog 161 #[val 1 n x, rvv, val ak an as'] w fun e w' => e = .returned (tupX (.ok (1, n, ⟨#[]⟩))) ∧ Ext w w' := by
  have h1 := hide (fun w => vrefNum_c n w)
  rw [tupX_ok]
  go_enter Tryz.func161, Tryz.ntmps161
  go_wp2_with (first | (go_at_call 188; (with_reducible refine seq_gw (h1.out _) ?_); intro g1))
  go_returns
  refine ⟨rfl, ?_⟩
  repeat (first | exact Ext.refl _ | refine Ext.alloc ?_ _ | refine Ext.drew ?_ | refine Ext.drewN ?_ _ | refine ext_gw ?_ _ | refine Ext.setCell ?_ (by first | (simp; done) | (simp [Upto.le_true, Upto.le_add]; done) | (simp; omega)) _)
set_option maxHeartbeats 4000000 in
set_option maxRecDepth 100000 in
theorem one_str (n : Int) (x : ByteArray) (ak an : Int) (as' : ByteArray) (rvv : Value) (w : World) : Calls Tryz.prog 161 #[val 2 n x, rvv, val ak an as'] w fun e w' => e = .returned (tupX (.ok (2, 0, x))) ∧ Ext w w' := by
  have h1 := hide (fun w => vrefText_c x w)
  rw [tupX_ok]
  go_enter Tryz.func161, Tryz.ntmps161
  go_wp2_with (first | (go_at_call 181; (with_reducible refine seq_gw (h1.out _) ?_); intro g1))
  go_returns
  refine ⟨rfl, ?_⟩
  repeat (first | exact Ext.refl _ | refine Ext.alloc ?_ _ | refine Ext.drew ?_ | refine Ext.drewN ?_ _ | refine ext_gw ?_ _ | refine Ext.setCell ?_ (by first | (simp; done) | (simp [Upto.le_true, Upto.le_add]; done) | (simp; omega)) _)
set_option maxHeartbeats 4000000 in
set_option maxRecDepth 100000 in
theorem one_get (r : List Vl) (n : Nat) (x : ByteArray) (ak an : Int) (as' : ByteArray) (rvv : Value) (w : World) (h : Rw w [] rvv r) : Calls Tryz.prog 161 #[val 3 n x, rvv, val ak an as'] w fun e w' => e = .returned (tupX (ofNone r (3, (n : Int), x))) ∧ Ext w w' := by
  obtain ⟨A, cap, rfl, hl, hm, hat⟩ := rw_form h
  unfold maxLen at hm
  clear h
  by_cases hi : n < r.length
  · obtain ⟨y, hy⟩ : ∃ y, r[n]? = some y := ⟨_, List.getElem?_eq_getElem hi⟩
    have e : ofNone r (3, (n : Int), x) = .ok y := by unfold ofNone; rw [if_neg (show ¬ (3 : Int) = 1 by decide), if_neg (show ¬ (3 : Int) = 2 by decide)]; simp only [Int.toNat_natCast]; rw [hy]
    rw [e]
    obtain ⟨b, o, rfl, -, hb, c0, c1, c2⟩ := hat n y hy
    have hiI : ¬ (r.length : Int) ≤ (n : Int) := by omega
    have hiI' : (n : Int) < r.length := by omega
    obtain ⟨yk, yn, ys⟩ := y
    rw [tupX_ok]
    simp only at c0 c1 c2
    haveI : In b w := ⟨hb⟩
    clear hat e hy hi
    go_enter Tryz.func161, Tryz.ntmps161
    go_wp2_with fail
    go_returns
    refine ⟨rfl, ?_⟩
    repeat (first | exact Ext.refl _ | refine Ext.alloc ?_ _ | refine Ext.drew ?_ | refine Ext.drewN ?_ _ | refine ext_gw ?_ _ | refine Ext.setCell ?_ (by first | (simp; done) | (simp [Upto.le_true, Upto.le_add]; done) | (simp; omega)) _)
  · have e : ofNone r (3, (n : Int), x) = .error 3 := by unfold ofNone; rw [if_neg (show ¬ (3 : Int) = 1 by decide), if_neg (show ¬ (3 : Int) = 2 by decide)]; simp only [Int.toNat_natCast]; rw [List.getElem?_eq_none (by omega)]
    rw [e, tupX_err]
    have hiI : (r.length : Int) ≤ (n : Int) := by omega
    clear hat e hi
    go_enter Tryz.func161, Tryz.ntmps161
    go_wp2_with fail
    go_returns
    refine ⟨rfl, ?_⟩
    repeat (first | exact Ext.refl _ | refine Ext.alloc ?_ _ | refine Ext.drew ?_ | refine Ext.drewN ?_ _ | refine ext_gw ?_ _ | refine Ext.setCell ?_ (by first | (simp; done) | (simp [Upto.le_true, Upto.le_add]; done) | (simp; omega)) _)
set_option maxHeartbeats 4000000 in
set_option maxRecDepth 100000 in
theorem one_len_t (on : Int) (ox : ByteArray) (rvv : Value) (t : ByteArray) (ht : t.size ≤ 64) (w : World) : Calls Tryz.prog 161 #[val 6 on ox, rvv, val 2 0 t] w fun e w' => e = .returned (tupX (.ok (1, (t.size : Int), ⟨#[]⟩))) ∧ Ext w w' := by
  have h1 := hide (fun w => vrefNum_c (t.size : Int) w)
  have htI : (t.size : Int) ≤ 64 := by omega
  rw [tupX_ok]
  go_enter Tryz.func161, Tryz.ntmps161
  go_wp2_with (first | (go_at_call 188; (with_reducible refine seq_gw (h1.out _) ?_); intro g1))
  go_returns
  refine ⟨rfl, ?_⟩
  repeat (first | exact Ext.refl _ | refine Ext.alloc ?_ _ | refine Ext.drew ?_ | refine Ext.drewN ?_ _ | refine ext_gw ?_ _ | refine Ext.setCell ?_ (by first | (simp; done) | (simp [Upto.le_true, Upto.le_add]; done) | (simp; omega)) _)
set_option maxHeartbeats 4000000 in
set_option maxRecDepth 100000 in
theorem one_len_n (on : Int) (ox : ByteArray) (rvv : Value) (n : Int) (w : World) : Calls Tryz.prog 161 #[val 6 on ox, rvv, val 1 n ⟨#[]⟩] w fun e w' => e = .returned (tupX (.error 12)) ∧ Ext w w' := by
  rw [tupX_err]
  go_enter Tryz.func161, Tryz.ntmps161
  go_wp2_with (fail)
  go_returns
  refine ⟨rfl, ?_⟩
  repeat (first | exact Ext.refl _ | refine Ext.alloc ?_ _ | refine Ext.drew ?_ | refine Ext.drewN ?_ _ | refine ext_gw ?_ _ | refine Ext.setCell ?_ (by first | (simp; done) | (simp [Upto.le_true, Upto.le_add]; done) | (simp; omega)) _)
set_option maxHeartbeats 4000000 in
set_option maxRecDepth 100000 in
theorem one_t5 (on : Int) (ox : ByteArray) (rvv : Value) (t : ByteArray) (w : World) : Calls Tryz.prog 161 #[val 5 on ox, rvv, val 2 0 t] w fun e w' => e = .returned (tupX (.error 12)) ∧ Ext w w' := by
  rw [tupX_err]
  go_enter Tryz.func161, Tryz.ntmps161
  go_wp2_with (fail)
  go_returns
  refine ⟨rfl, ?_⟩
  repeat (first | exact Ext.refl _ | refine Ext.alloc ?_ _ | refine Ext.drew ?_ | refine Ext.drewN ?_ _ | refine ext_gw ?_ _ | refine Ext.setCell ?_ (by first | (simp; done) | (simp [Upto.le_true, Upto.le_add]; done) | (simp; omega)) _)
set_option maxHeartbeats 4000000 in
set_option maxRecDepth 100000 in
theorem one_t4 (on : Int) (ox : ByteArray) (rvv : Value) (t : ByteArray) (w : World) : Calls Tryz.prog 161 #[val 4 on ox, rvv, val 2 0 t] w fun e w' => e = .returned (tupX (.error 12)) ∧ Ext w w' := by
  rw [tupX_err]
  go_enter Tryz.func161, Tryz.ntmps161
  go_wp2_with (fail)
  go_returns
  refine ⟨rfl, ?_⟩
  repeat (first | exact Ext.refl _ | refine Ext.alloc ?_ _ | refine Ext.drew ?_ | refine Ext.drewN ?_ _ | refine ext_gw ?_ _ | refine Ext.setCell ?_ (by first | (simp; done) | (simp [Upto.le_true, Upto.le_add]; done) | (simp; omega)) _)
set_option maxHeartbeats 4000000 in
set_option maxRecDepth 100000 in
theorem one_nt (on : Int) (ox : ByteArray) (rvv : Value) (n : Int) (z : Bool) (hz : (n == 0) = z) (w : World) : Calls Tryz.prog 161 #[val 5 on ox, rvv, val 1 n ⟨#[]⟩] w fun e w' => e = .returned (tupX (.ok (truV z))) ∧ Ext w w' := by
  have h1 := hide (fun w => truthV_c z w)
  rw [show tupX (.ok (truV z)) = .tuple #[val 1 (if z then 1 else 0) ⟨#[]⟩, .int .i64 0] from rfl]
  generalize (if z = true then (1 : Int) else 0) = y at *
  go_enter Tryz.func161, Tryz.ntmps161
  go_wp2_with (first | (go_at_call 180; (with_reducible refine seq_gw (h1.out _) ?_); intro g1))
  go_returns
  refine ⟨rfl, ?_⟩
  repeat (first | exact Ext.refl _ | refine Ext.alloc ?_ _ | refine Ext.drew ?_ | refine Ext.drewN ?_ _ | refine ext_gw ?_ _ | refine Ext.setCell ?_ (by first | (simp; done) | (simp [Upto.le_true, Upto.le_add]; done) | (simp; omega)) _)
set_option maxHeartbeats 4000000 in
set_option maxRecDepth 100000 in
theorem one_ng (on : Int) (ox : ByteArray) (rvv : Value) (n : Int) (hn : -9223372036854775808 ≤ n ∧ n ≤ 9223372036854775807) (w : World) : Calls Tryz.prog 161 #[val 4 on ox, rvv, val 1 n ⟨#[]⟩] w fun e w' => e = .returned (tupX (exN (okF (inR (-n)) (-n)) (ovE (inR (-n))))) ∧ Ext w w' := by
  have h2 := hide (fun w => nrefNeg_c n hn w)
  have h3 := hide (fun v e w => numberV_c v e w)
  clear hn
  generalize okF (inR (-n)) (-n) = V at *
  generalize ovE (inR (-n)) = E at *
  replace h3 := hide (fun w => h3.out V E w)
  obtain ⟨Z, hZ⟩ : ∃ Z, Z = resX (exN V E) := ⟨_, rfl⟩
  rw [show tupX (exN V E) = tupV Z by rw [hZ]; rfl] at h3 ⊢
  obtain ⟨⟨zk, zn, zs⟩, ze⟩ := Z
  clear hZ
  go_enter Tryz.func161, Tryz.ntmps161
  go_wp2_with (first | (go_at_call 189; (with_reducible refine seq_gw (h2.out _) ?_); intro g2) | (go_at_call 182; (with_reducible refine seq_gw' (h3.out _) ?_); intro g3))
  go_returns
  refine ⟨rfl, ?_⟩
  repeat (first | exact Ext.refl _ | refine Ext.alloc ?_ _ | refine Ext.drew ?_ | refine Ext.drewN ?_ _ | refine ext_gw ?_ _ | refine Ext.setCell ?_ (by first | (simp; done) | (simp [Upto.le_true, Upto.le_add]; done) | (simp; omega)) _)
theorem oneV0_c (r : List Vl) (o : Vl) (ho : okW o = true) (hc : tkI o.1 = 0) (ak an : Int) (as' : ByteArray) (rvv : Value) (w : World) (h : Rw w [] rvv r) : Calls Tryz.prog 161 #[val o.1 o.2.1 o.2.2, rvv, val ak an as'] w fun e w' => e = .returned (tupX (ofNone r o)) ∧ Ext w w' := by
  obtain ⟨c, n, x⟩ := o
  have h13 := tkI_iff0.1 hc
  simp only at h13
  have c3 : c = 1 ∨ c = 2 ∨ c = 3 := by omega
  rcases c3 with rfl | rfl | rfl
  · exact one_num n x ak an as' rvv w
  · exact one_str n x ak an as' rvv w
  · have hn8 : 0 ≤ n ∧ n < 8 := by rw [okW_3, Bool.and_eq_true, decide_eq_true_iff] at ho; exact ho.1
    obtain ⟨i, rfl⟩ := Int.eq_ofNat_of_zero_le hn8.1
    exact one_get r i x ak an as' rvv w h
theorem oneV1_c (o : Vl) (hc : tkI o.1 = 1) (a : Vl) (ha : fine a) (rvv : Value) (w : World) : Calls Tryz.prog 161 #[val o.1 o.2.1 o.2.2, rvv, val a.1 a.2.1 a.2.2] w fun e w' => e = .returned (tupX (ofOne o.1 a)) ∧ Ext w w' := by
  obtain ⟨c, n, x⟩ := o
  have h13 := tkI_iff1.1 hc
  simp only at h13
  have c3 : c = 4 ∨ c = 5 ∨ c = 6 := by omega
  rcases fine_cases ha with ⟨m, rfl, hm⟩ | ⟨t, rfl, ht⟩
  · rcases c3 with rfl | rfl | rfl
    · exact one_ng n x rvv m hm w
    · exact one_nt n x rvv m (decide (m = 0)) rfl w
    · exact one_len_n n x rvv m w
  · rcases c3 with rfl | rfl | rfl
    · exact one_t4 n x rvv t w
    · exact one_t5 n x rvv t w
    · exact one_len_t n x rvv t ht w
end Go.Proofs.YtljkneajdndgjabGreat
