/-
  A helper of ours: no claim of its own. Layer 18 (eval): what each word makes of values, by the document.
-/
import Derived.Test.YtljkneajdndgjabGreatEvaP
import Derived.Test.YtljkneajdndgjabGreatRowC
import Derived.Test.YtljkneajdndgjabGreatNumC
set_option linter.unusedVariables false
set_option linter.unusedSimpArgs false
namespace Go.Proofs.YtljkneajdndgjabGreat
open Go.RowKit
attribute [local go_sem] GW.cell GW.frozen In.eq_true In.le_true In.ne In.ne' In.ne_add In.ne_add' In.lt_add Upto.le_true Upto.le_add Upto.lt_add
/-- A value and an error, as what comes back. -/
abbrev tupV (x : Vl × Int) : Value := .tuple #[val x.1.1 x.1.2.1 x.1.2.2, .int .i64 x.2]
def tupX (x : Except Int Vl) : Value := tupV (resX x)
theorem tupX_err (z : Int) : tupX (.error z) = .tuple #[val 0 0 ⟨#[]⟩, .int .i64 z] := rfl
theorem tupX_ok (k n : Int) (s : ByteArray) : tupX (.ok (k, n, s)) = .tuple #[val k n s, .int .i64 0] := rfl
set_option maxHeartbeats 4000000 in
set_option maxRecDepth 100000 in
theorem truthV_c (b : Bool) (w : World) : Calls Tryz.prog 180 #[.bool b] w fun e w' => e = .returned (.tuple #[val 1 (if b then 1 else 0) ⟨#[]⟩, .int .i64 0]) ∧ Ext w w' := by
  have h0 := hide (fun w => vrefNum_c 0 w)
  have h1 := hide (fun w => vrefNum_c 1 w)
  cases b <;>
  (go_enter Tryz.func180, Tryz.ntmps180
   go_wp2_with (first | (go_at_call 188; first | ((with_reducible refine seq_gw (h0.out _) ?_); intro g) | ((with_reducible refine seq_gw (h1.out _) ?_); intro g)))
   go_returns
   refine ⟨rfl, ?_⟩
   repeat (first | exact Ext.refl _ | refine Ext.alloc ?_ _ | refine Ext.drew ?_ | refine Ext.drewN ?_ _ | refine ext_gw ?_ _ | refine Ext.setCell ?_ (by first | (simp; done) | (simp [Upto.le_true, Upto.le_add]; done) | (simp; omega)) _))
set_option maxHeartbeats 4000000 in
set_option maxRecDepth 100000 in
theorem numberV_c (n z : Int) (w : World) : Calls Tryz.prog 182 #[.int .i64 n, .int .i64 z] w fun e w' => e = .returned (tupX (exN n z)) ∧ Ext w w' := by
  have h1 := hide (fun w => vrefNum_c n w)
  by_cases hz : z = 0
  · subst hz
    rw [show tupX (exN n 0) = .tuple #[val 1 n ⟨#[]⟩, .int .i64 0] from rfl]
    go_enter Tryz.func182, Tryz.ntmps182
    go_wp2_with (first | (go_at_call 188; (with_reducible refine seq_gw (h1.out _) ?_); intro g))
    go_returns
    refine ⟨rfl, ?_⟩
    repeat (first | exact Ext.refl _ | refine Ext.alloc ?_ _ | refine Ext.drew ?_ | refine Ext.drewN ?_ _ | refine ext_gw ?_ _ | refine Ext.setCell ?_ (by first | (simp; done) | (simp [Upto.le_true, Upto.le_add]; done) | (simp; omega)) _)
  · have hz' : (z != 0) = true := by simpa using hz
    rw [show tupX (exN n z) = .tuple #[val 0 0 ⟨#[]⟩, .int .i64 z] by unfold exN; rw [if_neg hz]; rfl]
    clear hz h1
    go_enter Tryz.func182, Tryz.ntmps182
    go_wp2_with fail
    go_returns
    refine ⟨rfl, ?_⟩
    repeat (first | exact Ext.refl _ | refine Ext.alloc ?_ _ | refine Ext.drew ?_ | refine Ext.drewN ?_ _ | refine ext_gw ?_ _ | refine Ext.setCell ?_ (by first | (simp; done) | (simp [Upto.le_true, Upto.le_add]; done) | (simp; omega)) _)
set_option maxHeartbeats 4000000 in
set_option maxRecDepth 100000 in
theorem two_kind (c k n k' m : Int) (s t : ByteArray) (hk : (k != k') = true) (w : World) : Calls Tryz.prog 160 #[.int .i64 c, val k n s, val k' m t] w fun e w' => e = .returned (tupX (.error 12)) ∧ Ext w w' := by
  rw [tupX_err]
  go_enter Tryz.func160, Tryz.ntmps160
  go_wp2_with (fail)
  go_returns
  refine ⟨rfl, ?_⟩
  repeat (first | exact Ext.refl _ | refine Ext.alloc ?_ _ | refine Ext.drew ?_ | refine Ext.drewN ?_ _ | refine ext_gw ?_ _ | refine Ext.setCell ?_ (by first | (simp; done) | (simp [Upto.le_true, Upto.le_add]; done) | (simp; omega)) _)
set_option maxHeartbeats 4000000 in
set_option maxRecDepth 100000 in
theorem two_c13 (k n m : Int) (s t : ByteArray) (w : World) : Calls Tryz.prog 160 #[.int .i64 13, val k n s, val k m t] w fun e w' => e = .returned (tupX (.ok (truV (cmpB 13 (cmpV (k, n, s) (k, m, t)))))) ∧ Ext w w' := by
  have h1 := hide (fun w => refCompare_c k n k m s t w)
  have ht := hide (fun b w => truthV_c b w)
  have hkk : (k != k) = false := by simp
  generalize cmpV (k, n, s) (k, m, t) = z at *
  have e0 : ∀ b, cmpB 13 z = b → tupX (.ok (truV (cmpB 13 z))) = .tuple #[val 1 (if b then 1 else 0) ⟨#[]⟩, .int .i64 0] := by intro b h; rw [h]; rfl
  by_cases hq : z = 0
  · rw [e0 true (by have e := decide_eq_true hq; simpa [cmpB] using hq)]
    replace ht := hide (fun w => ht.out true w)
    clear e0
    have q1 : (z == 0) = true := by simpa using hq
    clear hq
    go_enter Tryz.func160, Tryz.ntmps160
    go_wp2_with (first | (go_at_call 127; (with_reducible refine seq_gw (h1.out _) ?_); intro g1) | (go_at_call 180; (with_reducible refine seq_gw' (ht.out _) ?_); intro g2))
    go_returns
    refine ⟨rfl, ?_⟩
    repeat (first | exact Ext.refl _ | refine Ext.alloc ?_ _ | refine Ext.drew ?_ | refine Ext.drewN ?_ _ | refine ext_gw ?_ _ | refine Ext.setCell ?_ (by first | (simp; done) | (simp [Upto.le_true, Upto.le_add]; done) | (simp; omega)) _)
  · rw [e0 false (by have e := decide_eq_false hq; simpa [cmpB] using hq)]
    replace ht := hide (fun w => ht.out false w)
    clear e0
    have q1 : (z == 0) = false := by simpa using hq
    clear hq
    go_enter Tryz.func160, Tryz.ntmps160
    go_wp2_with (first | (go_at_call 127; (with_reducible refine seq_gw (h1.out _) ?_); intro g1) | (go_at_call 180; (with_reducible refine seq_gw' (ht.out _) ?_); intro g2))
    go_returns
    refine ⟨rfl, ?_⟩
    repeat (first | exact Ext.refl _ | refine Ext.alloc ?_ _ | refine Ext.drew ?_ | refine Ext.drewN ?_ _ | refine ext_gw ?_ _ | refine Ext.setCell ?_ (by first | (simp; done) | (simp [Upto.le_true, Upto.le_add]; done) | (simp; omega)) _)
set_option maxHeartbeats 4000000 in
set_option maxRecDepth 100000 in
theorem two_c14 (k n m : Int) (s t : ByteArray) (w : World) : Calls Tryz.prog 160 #[.int .i64 14, val k n s, val k m t] w fun e w' => e = .returned (tupX (.ok (truV (cmpB 14 (cmpV (k, n, s) (k, m, t)))))) ∧ Ext w w' := by
  have h1 := hide (fun w => refCompare_c k n k m s t w)
  have ht := hide (fun b w => truthV_c b w)
  have hkk : (k != k) = false := by simp
  generalize cmpV (k, n, s) (k, m, t) = z at *
  have e0 : ∀ b, cmpB 14 z = b → tupX (.ok (truV (cmpB 14 z))) = .tuple #[val 1 (if b then 1 else 0) ⟨#[]⟩, .int .i64 0] := by intro b h; rw [h]; rfl
  by_cases hq : z ≠ 0
  · rw [e0 true (by have e := decide_eq_true hq; simpa [cmpB] using hq)]
    replace ht := hide (fun w => ht.out true w)
    clear e0
    have q1 : (z != 0) = true := by simpa using hq
    clear hq
    go_enter Tryz.func160, Tryz.ntmps160
    go_wp2_with (first | (go_at_call 127; (with_reducible refine seq_gw (h1.out _) ?_); intro g1) | (go_at_call 180; (with_reducible refine seq_gw' (ht.out _) ?_); intro g2))
    go_returns
    refine ⟨rfl, ?_⟩
    repeat (first | exact Ext.refl _ | refine Ext.alloc ?_ _ | refine Ext.drew ?_ | refine Ext.drewN ?_ _ | refine ext_gw ?_ _ | refine Ext.setCell ?_ (by first | (simp; done) | (simp [Upto.le_true, Upto.le_add]; done) | (simp; omega)) _)
  · rw [e0 false (by have e := decide_eq_false hq; simpa [cmpB] using hq)]
    replace ht := hide (fun w => ht.out false w)
    clear e0
    have q1 : (z != 0) = false := by simpa using hq
    clear hq
    go_enter Tryz.func160, Tryz.ntmps160
    go_wp2_with (first | (go_at_call 127; (with_reducible refine seq_gw (h1.out _) ?_); intro g1) | (go_at_call 180; (with_reducible refine seq_gw' (ht.out _) ?_); intro g2))
    go_returns
    refine ⟨rfl, ?_⟩
    repeat (first | exact Ext.refl _ | refine Ext.alloc ?_ _ | refine Ext.drew ?_ | refine Ext.drewN ?_ _ | refine ext_gw ?_ _ | refine Ext.setCell ?_ (by first | (simp; done) | (simp [Upto.le_true, Upto.le_add]; done) | (simp; omega)) _)
set_option maxHeartbeats 4000000 in
set_option maxRecDepth 100000 in
theorem two_c15 (k n m : Int) (s t : ByteArray) (w : World) : Calls Tryz.prog 160 #[.int .i64 15, val k n s, val k m t] w fun e w' => e = .returned (tupX (.ok (truV (cmpB 15 (cmpV (k, n, s) (k, m, t)))))) ∧ Ext w w' := by
  have h1 := hide (fun w => refCompare_c k n k m s t w)
  have ht := hide (fun b w => truthV_c b w)
  have hkk : (k != k) = false := by simp
  generalize cmpV (k, n, s) (k, m, t) = z at *
  have e0 : ∀ b, cmpB 15 z = b → tupX (.ok (truV (cmpB 15 z))) = .tuple #[val 1 (if b then 1 else 0) ⟨#[]⟩, .int .i64 0] := by intro b h; rw [h]; rfl
  by_cases hq : z < 0
  · rw [e0 true (by have e := decide_eq_true hq; simpa [cmpB] using hq)]
    replace ht := hide (fun w => ht.out true w)
    clear e0
    have q1 : z < 0 := hq
    clear hq
    go_enter Tryz.func160, Tryz.ntmps160
    go_wp2_with (first | (go_at_call 127; (with_reducible refine seq_gw (h1.out _) ?_); intro g1) | (go_at_call 180; (with_reducible refine seq_gw' (ht.out _) ?_); intro g2))
    go_returns
    refine ⟨rfl, ?_⟩
    repeat (first | exact Ext.refl _ | refine Ext.alloc ?_ _ | refine Ext.drew ?_ | refine Ext.drewN ?_ _ | refine ext_gw ?_ _ | refine Ext.setCell ?_ (by first | (simp; done) | (simp [Upto.le_true, Upto.le_add]; done) | (simp; omega)) _)
  · rw [e0 false (by have e := decide_eq_false hq; simpa [cmpB] using hq)]
    replace ht := hide (fun w => ht.out false w)
    clear e0
    have q1 : decide (z < 0) = false := decide_eq_false hq
    clear hq
    go_enter Tryz.func160, Tryz.ntmps160
    go_wp2_with (first | (go_at_call 127; (with_reducible refine seq_gw (h1.out _) ?_); intro g1) | (go_at_call 180; (with_reducible refine seq_gw' (ht.out _) ?_); intro g2))
    go_returns
    refine ⟨rfl, ?_⟩
    repeat (first | exact Ext.refl _ | refine Ext.alloc ?_ _ | refine Ext.drew ?_ | refine Ext.drewN ?_ _ | refine ext_gw ?_ _ | refine Ext.setCell ?_ (by first | (simp; done) | (simp [Upto.le_true, Upto.le_add]; done) | (simp; omega)) _)
set_option maxHeartbeats 4000000 in
set_option maxRecDepth 100000 in
theorem two_c16 (k n m : Int) (s t : ByteArray) (w : World) : Calls Tryz.prog 160 #[.int .i64 16, val k n s, val k m t] w fun e w' => e = .returned (tupX (.ok (truV (cmpB 16 (cmpV (k, n, s) (k, m, t)))))) ∧ Ext w w' := by
  have h1 := hide (fun w => refCompare_c k n k m s t w)
  have ht := hide (fun b w => truthV_c b w)
  have hkk : (k != k) = false := by simp
  generalize cmpV (k, n, s) (k, m, t) = z at *
  have e0 : ∀ b, cmpB 16 z = b → tupX (.ok (truV (cmpB 16 z))) = .tuple #[val 1 (if b then 1 else 0) ⟨#[]⟩, .int .i64 0] := by intro b h; rw [h]; rfl
  by_cases hq : z ≤ 0
  · rw [e0 true (by have e := decide_eq_true hq; simpa [cmpB] using hq)]
    replace ht := hide (fun w => ht.out true w)
    clear e0
    have q1 : z ≤ 0 := hq
    clear hq
    go_enter Tryz.func160, Tryz.ntmps160
    go_wp2_with (first | (go_at_call 127; (with_reducible refine seq_gw (h1.out _) ?_); intro g1) | (go_at_call 180; (with_reducible refine seq_gw' (ht.out _) ?_); intro g2))
    go_returns
    refine ⟨rfl, ?_⟩
    repeat (first | exact Ext.refl _ | refine Ext.alloc ?_ _ | refine Ext.drew ?_ | refine Ext.drewN ?_ _ | refine ext_gw ?_ _ | refine Ext.setCell ?_ (by first | (simp; done) | (simp [Upto.le_true, Upto.le_add]; done) | (simp; omega)) _)
  · rw [e0 false (by have e := decide_eq_false hq; simpa [cmpB] using hq)]
    replace ht := hide (fun w => ht.out false w)
    clear e0
    have q1 : decide (z ≤ 0) = false := decide_eq_false hq
    clear hq
    go_enter Tryz.func160, Tryz.ntmps160
    go_wp2_with (first | (go_at_call 127; (with_reducible refine seq_gw (h1.out _) ?_); intro g1) | (go_at_call 180; (with_reducible refine seq_gw' (ht.out _) ?_); intro g2))
    go_returns
    refine ⟨rfl, ?_⟩
    repeat (first | exact Ext.refl _ | refine Ext.alloc ?_ _ | refine Ext.drew ?_ | refine Ext.drewN ?_ _ | refine ext_gw ?_ _ | refine Ext.setCell ?_ (by first | (simp; done) | (simp [Upto.le_true, Upto.le_add]; done) | (simp; omega)) _)
set_option maxHeartbeats 4000000 in
set_option maxRecDepth 100000 in
theorem two_c17 (k n m : Int) (s t : ByteArray) (w : World) : Calls Tryz.prog 160 #[.int .i64 17, val k n s, val k m t] w fun e w' => e = .returned (tupX (.ok (truV (cmpB 17 (cmpV (k, n, s) (k, m, t)))))) ∧ Ext w w' := by
  have h1 := hide (fun w => refCompare_c k n k m s t w)
  have ht := hide (fun b w => truthV_c b w)
  have hkk : (k != k) = false := by simp
  generalize cmpV (k, n, s) (k, m, t) = z at *
  have e0 : ∀ b, cmpB 17 z = b → tupX (.ok (truV (cmpB 17 z))) = .tuple #[val 1 (if b then 1 else 0) ⟨#[]⟩, .int .i64 0] := by intro b h; rw [h]; rfl
  by_cases hq : 0 < z
  · rw [e0 true (by have e := decide_eq_true hq; simpa [cmpB] using hq)]
    replace ht := hide (fun w => ht.out true w)
    clear e0
    have q1 : 0 < z := hq
    clear hq
    go_enter Tryz.func160, Tryz.ntmps160
    go_wp2_with (first | (go_at_call 127; (with_reducible refine seq_gw (h1.out _) ?_); intro g1) | (go_at_call 180; (with_reducible refine seq_gw' (ht.out _) ?_); intro g2))
    go_returns
    refine ⟨rfl, ?_⟩
    repeat (first | exact Ext.refl _ | refine Ext.alloc ?_ _ | refine Ext.drew ?_ | refine Ext.drewN ?_ _ | refine ext_gw ?_ _ | refine Ext.setCell ?_ (by first | (simp; done) | (simp [Upto.le_true, Upto.le_add]; done) | (simp; omega)) _)
  · rw [e0 false (by have e := decide_eq_false hq; simpa [cmpB] using hq)]
    replace ht := hide (fun w => ht.out false w)
    clear e0
    have q1 : decide (0 < z) = false := decide_eq_false hq
    clear hq
    go_enter Tryz.func160, Tryz.ntmps160
    go_wp2_with (first | (go_at_call 127; (with_reducible refine seq_gw (h1.out _) ?_); intro g1) | (go_at_call 180; (with_reducible refine seq_gw' (ht.out _) ?_); intro g2))
    go_returns
    refine ⟨rfl, ?_⟩
    repeat (first | exact Ext.refl _ | refine Ext.alloc ?_ _ | refine Ext.drew ?_ | refine Ext.drewN ?_ _ | refine ext_gw ?_ _ | refine Ext.setCell ?_ (by first | (simp; done) | (simp [Upto.le_true, Upto.le_add]; done) | (simp; omega)) _)
set_option maxHeartbeats 4000000 in
set_option maxRecDepth 100000 in
theorem two_c18 (k n m : Int) (s t : ByteArray) (w : World) : Calls Tryz.prog 160 #[.int .i64 18, val k n s, val k m t] w fun e w' => e = .returned (tupX (.ok (truV (cmpB 18 (cmpV (k, n, s) (k, m, t)))))) ∧ Ext w w' := by
  have h1 := hide (fun w => refCompare_c k n k m s t w)
  have ht := hide (fun b w => truthV_c b w)
  have hkk : (k != k) = false := by simp
  generalize cmpV (k, n, s) (k, m, t) = z at *
  have e0 : ∀ b, cmpB 18 z = b → tupX (.ok (truV (cmpB 18 z))) = .tuple #[val 1 (if b then 1 else 0) ⟨#[]⟩, .int .i64 0] := by intro b h; rw [h]; rfl
  by_cases hq : 0 ≤ z
  · rw [e0 true (by have e := decide_eq_true hq; simpa [cmpB] using hq)]
    replace ht := hide (fun w => ht.out true w)
    clear e0
    have q1 : 0 ≤ z := hq
    clear hq
    go_enter Tryz.func160, Tryz.ntmps160
    go_wp2_with (first | (go_at_call 127; (with_reducible refine seq_gw (h1.out _) ?_); intro g1) | (go_at_call 180; (with_reducible refine seq_gw' (ht.out _) ?_); intro g2))
    go_returns
    refine ⟨rfl, ?_⟩
    repeat (first | exact Ext.refl _ | refine Ext.alloc ?_ _ | refine Ext.drew ?_ | refine Ext.drewN ?_ _ | refine ext_gw ?_ _ | refine Ext.setCell ?_ (by first | (simp; done) | (simp [Upto.le_true, Upto.le_add]; done) | (simp; omega)) _)
  · rw [e0 false (by have e := decide_eq_false hq; simpa [cmpB] using hq)]
    replace ht := hide (fun w => ht.out false w)
    clear e0
    have q1 : decide (0 ≤ z) = false := decide_eq_false hq
    clear hq
    go_enter Tryz.func160, Tryz.ntmps160
    go_wp2_with (first | (go_at_call 127; (with_reducible refine seq_gw (h1.out _) ?_); intro g1) | (go_at_call 180; (with_reducible refine seq_gw' (ht.out _) ?_); intro g2))
    go_returns
    refine ⟨rfl, ?_⟩
    repeat (first | exact Ext.refl _ | refine Ext.alloc ?_ _ | refine Ext.drew ?_ | refine Ext.drewN ?_ _ | refine ext_gw ?_ _ | refine Ext.setCell ?_ (by first | (simp; done) | (simp [Upto.le_true, Upto.le_add]; done) | (simp; omega)) _)
set_option maxHeartbeats 4000000 in
set_option maxRecDepth 100000 in
theorem two_nCat (n m : Int) (w : World) : Calls Tryz.prog 160 #[.int .i64 12, val 1 n ⟨#[]⟩, val 1 m ⟨#[]⟩] w fun e w' => e = .returned (tupX (.error 12)) ∧ Ext w w' := by
  have h1 := hide (fun w => refCompare_c 1 n 1 m ⟨#[]⟩ ⟨#[]⟩ w)
  generalize cmpV (1, n, ⟨#[]⟩) (1, m, ⟨#[]⟩) = z at *
  rw [tupX_err]
  go_enter Tryz.func160, Tryz.ntmps160
  go_wp2_with (first | (go_at_call 127; (with_reducible refine seq_gw (h1.out _) ?_); intro g1))
  go_returns
  refine ⟨rfl, ?_⟩
  repeat (first | exact Ext.refl _ | refine Ext.alloc ?_ _ | refine Ext.drew ?_ | refine Ext.drewN ?_ _ | refine ext_gw ?_ _ | refine Ext.setCell ?_ (by first | (simp; done) | (simp [Upto.le_true, Upto.le_add]; done) | (simp; omega)) _)
set_option maxHeartbeats 4000000 in
set_option maxRecDepth 100000 in
theorem two_Add (n m : Int) (hn : -9223372036854775808 ≤ n ∧ n ≤ 9223372036854775807) (hm : -9223372036854775808 ≤ m ∧ m ≤ 9223372036854775807) (w : World) : Calls Tryz.prog 160 #[.int .i64 7, val 1 n ⟨#[]⟩, val 1 m ⟨#[]⟩] w fun e w' => e = .returned (tupX (exN (okF (inR (n + m)) (n + m)) (ovE (inR (n + m))))) ∧ Ext w w' := by
  have h1 := hide (fun w => refCompare_c 1 n 1 m ⟨#[]⟩ ⟨#[]⟩ w)
  generalize cmpV (1, n, ⟨#[]⟩) (1, m, ⟨#[]⟩) = z at *
  have h2 := hide (fun w => refAdd_c n m hn hm w)
  have h3 := hide (fun v e w => numberV_c v e w)
  clear hn hm
  generalize okF (inR (n + m)) (n + m) = V at *
  generalize ovE (inR (n + m)) = E at *
  replace h3 := hide (fun w => h3.out V E w)
  obtain ⟨Z, hZ⟩ : ∃ Z, Z = resX (exN V E) := ⟨_, rfl⟩
  rw [show tupX (exN V E) = tupV Z by rw [hZ]; rfl] at h3 ⊢
  obtain ⟨⟨zk, zn, zs⟩, ze⟩ := Z
  clear hZ
  go_enter Tryz.func160, Tryz.ntmps160
  go_wp2_with (first | (go_at_call 127; (with_reducible refine seq_gw (h1.out _) ?_); intro g1) | (go_at_call 183; (with_reducible refine seq_gw' (h2.out _) ?_); intro g2) | (go_at_call 182; (with_reducible refine seq_gw' (h3.out _) ?_); intro g3))
  go_returns
  refine ⟨rfl, ?_⟩
  repeat (first | exact Ext.refl _ | refine Ext.alloc ?_ _ | refine Ext.drew ?_ | refine Ext.drewN ?_ _ | refine ext_gw ?_ _ | refine Ext.setCell ?_ (by first | (simp; done) | (simp [Upto.le_true, Upto.le_add]; done) | (simp; omega)) _)
set_option maxHeartbeats 4000000 in
set_option maxRecDepth 100000 in
theorem two_Sub (n m : Int) (hn : -9223372036854775808 ≤ n ∧ n ≤ 9223372036854775807) (hm : -9223372036854775808 ≤ m ∧ m ≤ 9223372036854775807) (w : World) : Calls Tryz.prog 160 #[.int .i64 8, val 1 n ⟨#[]⟩, val 1 m ⟨#[]⟩] w fun e w' => e = .returned (tupX (exN (okF (inR (n - m)) (n - m)) (ovE (inR (n - m))))) ∧ Ext w w' := by
  have h1 := hide (fun w => refCompare_c 1 n 1 m ⟨#[]⟩ ⟨#[]⟩ w)
  generalize cmpV (1, n, ⟨#[]⟩) (1, m, ⟨#[]⟩) = z at *
  have h2 := hide (fun w => refSub_c n m hn hm w)
  have h3 := hide (fun v e w => numberV_c v e w)
  clear hn hm
  generalize okF (inR (n - m)) (n - m) = V at *
  generalize ovE (inR (n - m)) = E at *
  replace h3 := hide (fun w => h3.out V E w)
  obtain ⟨Z, hZ⟩ : ∃ Z, Z = resX (exN V E) := ⟨_, rfl⟩
  rw [show tupX (exN V E) = tupV Z by rw [hZ]; rfl] at h3 ⊢
  obtain ⟨⟨zk, zn, zs⟩, ze⟩ := Z
  clear hZ
  go_enter Tryz.func160, Tryz.ntmps160
  go_wp2_with (first | (go_at_call 127; (with_reducible refine seq_gw (h1.out _) ?_); intro g1) | (go_at_call 184; (with_reducible refine seq_gw' (h2.out _) ?_); intro g2) | (go_at_call 182; (with_reducible refine seq_gw' (h3.out _) ?_); intro g3))
  go_returns
  refine ⟨rfl, ?_⟩
  repeat (first | exact Ext.refl _ | refine Ext.alloc ?_ _ | refine Ext.drew ?_ | refine Ext.drewN ?_ _ | refine ext_gw ?_ _ | refine Ext.setCell ?_ (by first | (simp; done) | (simp [Upto.le_true, Upto.le_add]; done) | (simp; omega)) _)
set_option maxHeartbeats 4000000 in
set_option maxRecDepth 100000 in
theorem two_Mul (n m : Int) (hn : -9223372036854775808 ≤ n ∧ n ≤ 9223372036854775807) (hm : -9223372036854775808 ≤ m ∧ m ≤ 9223372036854775807) (w : World) : Calls Tryz.prog 160 #[.int .i64 9, val 1 n ⟨#[]⟩, val 1 m ⟨#[]⟩] w fun e w' => e = .returned (tupX (exN (okF (inR (n * m)) (n * m)) (ovE (inR (n * m))))) ∧ Ext w w' := by
  have h1 := hide (fun w => refCompare_c 1 n 1 m ⟨#[]⟩ ⟨#[]⟩ w)
  generalize cmpV (1, n, ⟨#[]⟩) (1, m, ⟨#[]⟩) = z at *
  have h2 := hide (fun w => refMul_c n m hn hm w)
  have h3 := hide (fun v e w => numberV_c v e w)
  clear hn hm
  generalize okF (inR (n * m)) (n * m) = V at *
  generalize ovE (inR (n * m)) = E at *
  replace h3 := hide (fun w => h3.out V E w)
  obtain ⟨Z, hZ⟩ : ∃ Z, Z = resX (exN V E) := ⟨_, rfl⟩
  rw [show tupX (exN V E) = tupV Z by rw [hZ]; rfl] at h3 ⊢
  obtain ⟨⟨zk, zn, zs⟩, ze⟩ := Z
  clear hZ
  go_enter Tryz.func160, Tryz.ntmps160
  go_wp2_with (first | (go_at_call 127; (with_reducible refine seq_gw (h1.out _) ?_); intro g1) | (go_at_call 185; (with_reducible refine seq_gw' (h2.out _) ?_); intro g2) | (go_at_call 182; (with_reducible refine seq_gw' (h3.out _) ?_); intro g3))
  go_returns
  refine ⟨rfl, ?_⟩
  repeat (first | exact Ext.refl _ | refine Ext.alloc ?_ _ | refine Ext.drew ?_ | refine Ext.drewN ?_ _ | refine ext_gw ?_ _ | refine Ext.setCell ?_ (by first | (simp; done) | (simp [Upto.le_true, Upto.le_add]; done) | (simp; omega)) _)
set_option maxHeartbeats 4000000 in
set_option maxRecDepth 100000 in
theorem two_Quo (n m : Int) (hn : -9223372036854775808 ≤ n ∧ n ≤ 9223372036854775807) (hm : -9223372036854775808 ≤ m ∧ m ≤ 9223372036854775807) (w : World) : Calls Tryz.prog 160 #[.int .i64 10, val 1 n ⟨#[]⟩, val 1 m ⟨#[]⟩] w fun e w' => e = .returned (tupX (exN (quoV n m) (quoE n m))) ∧ Ext w w' := by
  have h1 := hide (fun w => refCompare_c 1 n 1 m ⟨#[]⟩ ⟨#[]⟩ w)
  generalize cmpV (1, n, ⟨#[]⟩) (1, m, ⟨#[]⟩) = z at *
  have h2 := hide (fun w => refQuo_c n m hn hm w)
  have h3 := hide (fun v e w => numberV_c v e w)
  clear hn hm
  generalize quoV n m = V at *
  generalize quoE n m = E at *
  replace h3 := hide (fun w => h3.out V E w)
  obtain ⟨Z, hZ⟩ : ∃ Z, Z = resX (exN V E) := ⟨_, rfl⟩
  rw [show tupX (exN V E) = tupV Z by rw [hZ]; rfl] at h3 ⊢
  obtain ⟨⟨zk, zn, zs⟩, ze⟩ := Z
  clear hZ
  go_enter Tryz.func160, Tryz.ntmps160
  go_wp2_with (first | (go_at_call 127; (with_reducible refine seq_gw (h1.out _) ?_); intro g1) | (go_at_call 186; (with_reducible refine seq_gw' (h2.out _) ?_); intro g2) | (go_at_call 182; (with_reducible refine seq_gw' (h3.out _) ?_); intro g3))
  go_returns
  refine ⟨rfl, ?_⟩
  repeat (first | exact Ext.refl _ | refine Ext.alloc ?_ _ | refine Ext.drew ?_ | refine Ext.drewN ?_ _ | refine ext_gw ?_ _ | refine Ext.setCell ?_ (by first | (simp; done) | (simp [Upto.le_true, Upto.le_add]; done) | (simp; omega)) _)
set_option maxHeartbeats 4000000 in
set_option maxRecDepth 100000 in
theorem two_Rem (n m : Int) (hn : -9223372036854775808 ≤ n ∧ n ≤ 9223372036854775807) (hm : -9223372036854775808 ≤ m ∧ m ≤ 9223372036854775807) (w : World) : Calls Tryz.prog 160 #[.int .i64 11, val 1 n ⟨#[]⟩, val 1 m ⟨#[]⟩] w fun e w' => e = .returned (tupX (exN (remV n m) (remE m))) ∧ Ext w w' := by
  have h1 := hide (fun w => refCompare_c 1 n 1 m ⟨#[]⟩ ⟨#[]⟩ w)
  generalize cmpV (1, n, ⟨#[]⟩) (1, m, ⟨#[]⟩) = z at *
  have h2 := hide (fun w => refRem_c n m hn hm w)
  have h3 := hide (fun v e w => numberV_c v e w)
  clear hn hm
  generalize remV n m = V at *
  generalize remE m = E at *
  replace h3 := hide (fun w => h3.out V E w)
  obtain ⟨Z, hZ⟩ : ∃ Z, Z = resX (exN V E) := ⟨_, rfl⟩
  rw [show tupX (exN V E) = tupV Z by rw [hZ]; rfl] at h3 ⊢
  obtain ⟨⟨zk, zn, zs⟩, ze⟩ := Z
  clear hZ
  go_enter Tryz.func160, Tryz.ntmps160
  go_wp2_with (first | (go_at_call 127; (with_reducible refine seq_gw (h1.out _) ?_); intro g1) | (go_at_call 187; (with_reducible refine seq_gw' (h2.out _) ?_); intro g2) | (go_at_call 182; (with_reducible refine seq_gw' (h3.out _) ?_); intro g3))
  go_returns
  refine ⟨rfl, ?_⟩
  repeat (first | exact Ext.refl _ | refine Ext.alloc ?_ _ | refine Ext.drew ?_ | refine Ext.drewN ?_ _ | refine ext_gw ?_ _ | refine Ext.setCell ?_ (by first | (simp; done) | (simp [Upto.le_true, Upto.le_add]; done) | (simp; omega)) _)
set_option maxHeartbeats 4000000 in
set_option maxRecDepth 100000 in
theorem two_And (n m : Int) (w : World) : Calls Tryz.prog 160 #[.int .i64 19, val 1 n ⟨#[]⟩, val 1 m ⟨#[]⟩] w fun e w' => e = .returned (tupX (.ok (truV (decide (n ≠ 0) && decide (m ≠ 0))))) ∧ Ext w w' := by
  have h1 := hide (fun w => refCompare_c 1 n 1 m ⟨#[]⟩ ⟨#[]⟩ w)
  generalize cmpV (1, n, ⟨#[]⟩) (1, m, ⟨#[]⟩) = z at *
  have ht := hide (fun b w => truthV_c b w)
  by_cases hn : n = 0 <;> by_cases hm : m = 0
  · rw [show tupX (.ok (truV (decide (n ≠ 0) && decide (m ≠ 0)))) = .tuple #[val 1 (if false then 1 else 0) ⟨#[]⟩, .int .i64 0] by simp [hn, hm]; rfl]
    replace ht := hide (fun w => ht.out false w)
    have qn : (n != 0) = false := by simp [hn]
    have qm : (m != 0) = false := by simp [hm]
    clear hn hm
    go_enter Tryz.func160, Tryz.ntmps160
    go_wp2_with (first | (go_at_call 127; (with_reducible refine seq_gw (h1.out _) ?_); intro g1) | (go_at_call 180; (with_reducible refine seq_gw' (ht.out _) ?_); intro g2))
    go_returns
    refine ⟨rfl, ?_⟩
    repeat (first | exact Ext.refl _ | refine Ext.alloc ?_ _ | refine Ext.drew ?_ | refine Ext.drewN ?_ _ | refine ext_gw ?_ _ | refine Ext.setCell ?_ (by first | (simp; done) | (simp [Upto.le_true, Upto.le_add]; done) | (simp; omega)) _)
  · rw [show tupX (.ok (truV (decide (n ≠ 0) && decide (m ≠ 0)))) = .tuple #[val 1 (if false then 1 else 0) ⟨#[]⟩, .int .i64 0] by simp [hn, hm]; rfl]
    replace ht := hide (fun w => ht.out false w)
    have qn : (n != 0) = false := by simp [hn]
    have qm : (m != 0) = true := by simp [hm]
    clear hn hm
    go_enter Tryz.func160, Tryz.ntmps160
    go_wp2_with (first | (go_at_call 127; (with_reducible refine seq_gw (h1.out _) ?_); intro g1) | (go_at_call 180; (with_reducible refine seq_gw' (ht.out _) ?_); intro g2))
    go_returns
    refine ⟨rfl, ?_⟩
    repeat (first | exact Ext.refl _ | refine Ext.alloc ?_ _ | refine Ext.drew ?_ | refine Ext.drewN ?_ _ | refine ext_gw ?_ _ | refine Ext.setCell ?_ (by first | (simp; done) | (simp [Upto.le_true, Upto.le_add]; done) | (simp; omega)) _)
  · rw [show tupX (.ok (truV (decide (n ≠ 0) && decide (m ≠ 0)))) = .tuple #[val 1 (if false then 1 else 0) ⟨#[]⟩, .int .i64 0] by simp [hn, hm]; rfl]
    replace ht := hide (fun w => ht.out false w)
    have qn : (n != 0) = true := by simp [hn]
    have qm : (m != 0) = false := by simp [hm]
    clear hn hm
    go_enter Tryz.func160, Tryz.ntmps160
    go_wp2_with (first | (go_at_call 127; (with_reducible refine seq_gw (h1.out _) ?_); intro g1) | (go_at_call 180; (with_reducible refine seq_gw' (ht.out _) ?_); intro g2))
    go_returns
    refine ⟨rfl, ?_⟩
    repeat (first | exact Ext.refl _ | refine Ext.alloc ?_ _ | refine Ext.drew ?_ | refine Ext.drewN ?_ _ | refine ext_gw ?_ _ | refine Ext.setCell ?_ (by first | (simp; done) | (simp [Upto.le_true, Upto.le_add]; done) | (simp; omega)) _)
  · rw [show tupX (.ok (truV (decide (n ≠ 0) && decide (m ≠ 0)))) = .tuple #[val 1 (if true then 1 else 0) ⟨#[]⟩, .int .i64 0] by simp [hn, hm]; rfl]
    replace ht := hide (fun w => ht.out true w)
    have qn : (n != 0) = true := by simp [hn]
    have qm : (m != 0) = true := by simp [hm]
    clear hn hm
    go_enter Tryz.func160, Tryz.ntmps160
    go_wp2_with (first | (go_at_call 127; (with_reducible refine seq_gw (h1.out _) ?_); intro g1) | (go_at_call 180; (with_reducible refine seq_gw' (ht.out _) ?_); intro g2))
    go_returns
    refine ⟨rfl, ?_⟩
    repeat (first | exact Ext.refl _ | refine Ext.alloc ?_ _ | refine Ext.drew ?_ | refine Ext.drewN ?_ _ | refine ext_gw ?_ _ | refine Ext.setCell ?_ (by first | (simp; done) | (simp [Upto.le_true, Upto.le_add]; done) | (simp; omega)) _)
set_option maxHeartbeats 4000000 in
set_option maxRecDepth 100000 in
theorem two_Or (n m : Int) (w : World) : Calls Tryz.prog 160 #[.int .i64 20, val 1 n ⟨#[]⟩, val 1 m ⟨#[]⟩] w fun e w' => e = .returned (tupX (.ok (truV (decide (n ≠ 0) || decide (m ≠ 0))))) ∧ Ext w w' := by
  have h1 := hide (fun w => refCompare_c 1 n 1 m ⟨#[]⟩ ⟨#[]⟩ w)
  generalize cmpV (1, n, ⟨#[]⟩) (1, m, ⟨#[]⟩) = z at *
  have ht := hide (fun b w => truthV_c b w)
  by_cases hn : n = 0 <;> by_cases hm : m = 0
  · rw [show tupX (.ok (truV (decide (n ≠ 0) || decide (m ≠ 0)))) = .tuple #[val 1 (if false then 1 else 0) ⟨#[]⟩, .int .i64 0] by simp [hn, hm]; rfl]
    replace ht := hide (fun w => ht.out false w)
    have qn : (n != 0) = false := by simp [hn]
    have qm : (m != 0) = false := by simp [hm]
    clear hn hm
    go_enter Tryz.func160, Tryz.ntmps160
    go_wp2_with (first | (go_at_call 127; (with_reducible refine seq_gw (h1.out _) ?_); intro g1) | (go_at_call 180; (with_reducible refine seq_gw' (ht.out _) ?_); intro g2))
    go_returns
    refine ⟨rfl, ?_⟩
    repeat (first | exact Ext.refl _ | refine Ext.alloc ?_ _ | refine Ext.drew ?_ | refine Ext.drewN ?_ _ | refine ext_gw ?_ _ | refine Ext.setCell ?_ (by first | (simp; done) | (simp [Upto.le_true, Upto.le_add]; done) | (simp; omega)) _)
  · rw [show tupX (.ok (truV (decide (n ≠ 0) || decide (m ≠ 0)))) = .tuple #[val 1 (if true then 1 else 0) ⟨#[]⟩, .int .i64 0] by simp [hn, hm]; rfl]
    replace ht := hide (fun w => ht.out true w)
    have qn : (n != 0) = false := by simp [hn]
    have qm : (m != 0) = true := by simp [hm]
    clear hn hm
    go_enter Tryz.func160, Tryz.ntmps160
    go_wp2_with (first | (go_at_call 127; (with_reducible refine seq_gw (h1.out _) ?_); intro g1) | (go_at_call 180; (with_reducible refine seq_gw' (ht.out _) ?_); intro g2))
    go_returns
    refine ⟨rfl, ?_⟩
    repeat (first | exact Ext.refl _ | refine Ext.alloc ?_ _ | refine Ext.drew ?_ | refine Ext.drewN ?_ _ | refine ext_gw ?_ _ | refine Ext.setCell ?_ (by first | (simp; done) | (simp [Upto.le_true, Upto.le_add]; done) | (simp; omega)) _)
  · rw [show tupX (.ok (truV (decide (n ≠ 0) || decide (m ≠ 0)))) = .tuple #[val 1 (if true then 1 else 0) ⟨#[]⟩, .int .i64 0] by simp [hn, hm]; rfl]
    replace ht := hide (fun w => ht.out true w)
    have qn : (n != 0) = true := by simp [hn]
    have qm : (m != 0) = false := by simp [hm]
    clear hn hm
    go_enter Tryz.func160, Tryz.ntmps160
    go_wp2_with (first | (go_at_call 127; (with_reducible refine seq_gw (h1.out _) ?_); intro g1) | (go_at_call 180; (with_reducible refine seq_gw' (ht.out _) ?_); intro g2))
    go_returns
    refine ⟨rfl, ?_⟩
    repeat (first | exact Ext.refl _ | refine Ext.alloc ?_ _ | refine Ext.drew ?_ | refine Ext.drewN ?_ _ | refine ext_gw ?_ _ | refine Ext.setCell ?_ (by first | (simp; done) | (simp [Upto.le_true, Upto.le_add]; done) | (simp; omega)) _)
  · rw [show tupX (.ok (truV (decide (n ≠ 0) || decide (m ≠ 0)))) = .tuple #[val 1 (if true then 1 else 0) ⟨#[]⟩, .int .i64 0] by simp [hn, hm]; rfl]
    replace ht := hide (fun w => ht.out true w)
    have qn : (n != 0) = true := by simp [hn]
    have qm : (m != 0) = true := by simp [hm]
    clear hn hm
    go_enter Tryz.func160, Tryz.ntmps160
    go_wp2_with (first | (go_at_call 127; (with_reducible refine seq_gw (h1.out _) ?_); intro g1) | (go_at_call 180; (with_reducible refine seq_gw' (ht.out _) ?_); intro g2))
    go_returns
    refine ⟨rfl, ?_⟩
    repeat (first | exact Ext.refl _ | refine Ext.alloc ?_ _ | refine Ext.drew ?_ | refine Ext.drewN ?_ _ | refine ext_gw ?_ _ | refine Ext.setCell ?_ (by first | (simp; done) | (simp [Upto.le_true, Upto.le_add]; done) | (simp; omega)) _)
set_option maxHeartbeats 4000000 in
set_option maxRecDepth 100000 in
theorem two_tNo (c : Int) (s t : ByteArray) (hlo : ¬ 13 ≤ c) (h12 : (c == 12) = false) (w : World) : Calls Tryz.prog 160 #[.int .i64 c, val 2 0 s, val 2 0 t] w fun e w' => e = .returned (tupX (.error 12)) ∧ Ext w w' := by
  have h1 := hide (fun w => refCompare_c 2 0 2 0 s t w)
  generalize cmpV (2, 0, s) (2, 0, t) = z at *
  rw [tupX_err]
  go_enter Tryz.func160, Tryz.ntmps160
  go_wp2_with (first | (go_at_call 127; (with_reducible refine seq_gw (h1.out _) ?_); intro g1))
  go_returns
  refine ⟨rfl, ?_⟩
  repeat (first | exact Ext.refl _ | refine Ext.alloc ?_ _ | refine Ext.drew ?_ | refine Ext.drewN ?_ _ | refine ext_gw ?_ _ | refine Ext.setCell ?_ (by first | (simp; done) | (simp [Upto.le_true, Upto.le_add]; done) | (simp; omega)) _)
set_option maxHeartbeats 4000000 in
set_option maxRecDepth 100000 in
theorem two_tNo2 (c : Int) (s t : ByteArray) (hlo : 13 ≤ c) (hhi : ¬ c ≤ 18) (h12 : (c == 12) = false) (w : World) : Calls Tryz.prog 160 #[.int .i64 c, val 2 0 s, val 2 0 t] w fun e w' => e = .returned (tupX (.error 12)) ∧ Ext w w' := by
  have h1 := hide (fun w => refCompare_c 2 0 2 0 s t w)
  generalize cmpV (2, 0, s) (2, 0, t) = z at *
  rw [tupX_err]
  go_enter Tryz.func160, Tryz.ntmps160
  go_wp2_with (first | (go_at_call 127; (with_reducible refine seq_gw (h1.out _) ?_); intro g1))
  go_returns
  refine ⟨rfl, ?_⟩
  repeat (first | exact Ext.refl _ | refine Ext.alloc ?_ _ | refine Ext.drew ?_ | refine Ext.drewN ?_ _ | refine ext_gw ?_ _ | refine Ext.setCell ?_ (by first | (simp; done) | (simp [Upto.le_true, Upto.le_add]; done) | (simp; omega)) _)
set_option maxHeartbeats 4000000 in
set_option maxRecDepth 100000 in
theorem two_tLong (s t : ByteArray) (hs : s.size ≤ 64) (ht : t.size ≤ 64) (h : 64 < s.size + t.size) (w : World) : Calls Tryz.prog 160 #[.int .i64 12, val 2 0 s, val 2 0 t] w fun e w' => e = .returned (tupX (.error 6)) ∧ Ext w w' := by
  have h1 := hide (fun w => refCompare_c 2 0 2 0 s t w)
  generalize cmpV (2, 0, s) (2, 0, t) = z at *
  rw [tupX_err]
  have hI : (64 : Int) < (s.size : Int) + (t.size : Int) := by omega
  have hsI : (s.size : Int) ≤ 64 := by omega
  have htI : (t.size : Int) ≤ 64 := by omega
  go_enter Tryz.func160, Tryz.ntmps160
  go_wp2_with (first | (go_at_call 127; (with_reducible refine seq_gw (h1.out _) ?_); intro g1))
  go_returns
  refine ⟨rfl, ?_⟩
  repeat (first | exact Ext.refl _ | refine Ext.alloc ?_ _ | refine Ext.drew ?_ | refine Ext.drewN ?_ _ | refine ext_gw ?_ _ | refine Ext.setCell ?_ (by first | (simp; done) | (simp [Upto.le_true, Upto.le_add]; done) | (simp; omega)) _)
set_option maxHeartbeats 4000000 in
set_option maxRecDepth 100000 in
theorem two_tCat (s t : ByteArray) (hs : s.size ≤ 64) (ht : t.size ≤ 64) (h : ¬ 64 < s.size + t.size) (w : World) : Calls Tryz.prog 160 #[.int .i64 12, val 2 0 s, val 2 0 t] w fun e w' => e = .returned (tupX (.ok (2, 0, s ++ t))) ∧ Ext w w' := by
  have h1 := hide (fun w => refCompare_c 2 0 2 0 s t w)
  generalize cmpV (2, 0, s) (2, 0, t) = z at *
  rw [tupX_ok]
  have h2 := hide (fun w => vrefText_c (s ++ t) w)
  have hI : ¬ (64 : Int) < (s.size : Int) + (t.size : Int) := by omega
  have hsI : (s.size : Int) ≤ 64 := by omega
  have htI : (t.size : Int) ≤ 64 := by omega
  go_enter Tryz.func160, Tryz.ntmps160
  go_wp2_with (first | (go_at_call 127; (with_reducible refine seq_gw (h1.out _) ?_); intro g1) | (go_at_call 181; (with_reducible refine seq_gw' (h2.out _) ?_); intro g2))
  go_returns
  refine ⟨rfl, ?_⟩
  repeat (first | exact Ext.refl _ | refine Ext.alloc ?_ _ | refine Ext.drew ?_ | refine Ext.drewN ?_ _ | refine ext_gw ?_ _ | refine Ext.setCell ?_ (by first | (simp; done) | (simp [Upto.le_true, Upto.le_add]; done) | (simp; omega)) _)
theorem twoV_c (c : Int) (hc : tkI c = 2) (a b : Vl) (ha : fine a) (hb : fine b) (w : World) : Calls Tryz.prog 160 #[.int .i64 c, val a.1 a.2.1 a.2.2, val b.1 b.2.1 b.2.2] w fun e w' => e = .returned (tupX (ofTwo c a b)) ∧ Ext w w' := by
  have hc2 := tkI_iff2.1 hc
  have cmp : ∀ (k n m : Int) (s t : ByteArray), 13 ≤ c → c ≤ 18 → Calls Tryz.prog 160 #[.int .i64 c, val k n s, val k m t] w fun e w' => e = .returned (tupX (.ok (truV (cmpB c (cmpV (k, n, s) (k, m, t)))))) ∧ Ext w w' := by
    intro k n m s t h1 h2
    have h6 : c = 13 ∨ c = 14 ∨ c = 15 ∨ c = 16 ∨ c = 17 ∨ c = 18 := by omega
    rcases h6 with rfl | rfl | rfl | rfl | rfl | rfl
    · exact two_c13 k n m s t w
    · exact two_c14 k n m s t w
    · exact two_c15 k n m s t w
    · exact two_c16 k n m s t w
    · exact two_c17 k n m s t w
    · exact two_c18 k n m s t w
  unfold ofTwo
  rcases fine_cases ha with ⟨n, rfl, hn⟩ | ⟨s, rfl, hs⟩ <;> rcases fine_cases hb with ⟨m, rfl, hm⟩ | ⟨t, rfl, ht⟩
  · by_cases h12 : c = 12
    · subst h12; exact two_nCat n m w
    rw [if_neg h12]
    by_cases h13 : 13 ≤ c ∧ c ≤ 18
    · rw [if_pos h13, if_pos rfl]; exact cmp _ _ _ _ _ h13.1 h13.2
    rw [if_neg h13, if_pos ⟨rfl, rfl⟩]
    have h7 : c = 7 ∨ c = 8 ∨ c = 9 ∨ c = 10 ∨ c = 11 ∨ c = 19 ∨ c = 20 := by omega
    rcases h7 with rfl | rfl | rfl | rfl | rfl | rfl | rfl
    · exact two_Add n m hn hm w
    · exact two_Sub n m hn hm w
    · exact two_Mul n m hn hm w
    · exact two_Quo n m hn hm w
    · exact two_Rem n m hn hm w
    · exact two_And n m w
    · exact two_Or n m w
  · have e : (if c = 12 then (if ((1, n, ⟨#[]⟩) : Vl).1 = 2 ∧ ((2, 0, t) : Vl).1 = 2 then (if 64 < ((1, n, ⟨#[]⟩) : Vl).2.2.size + ((2, 0, t) : Vl).2.2.size then .error 6 else .ok (2, 0, ((1, n, ⟨#[]⟩) : Vl).2.2 ++ ((2, 0, t) : Vl).2.2)) else .error 12) else if 13 ≤ c ∧ c ≤ 18 then (if ((1, n, ⟨#[]⟩) : Vl).1 = ((2, 0, t) : Vl).1 then .ok (truV (cmpB c (cmpV ((1, n, ⟨#[]⟩) : Vl) ((2, 0, t) : Vl)))) else .error 12) else if ((1, n, ⟨#[]⟩) : Vl).1 = 1 ∧ ((2, 0, t) : Vl).1 = 1 then ofNums c ((1, n, ⟨#[]⟩) : Vl).2.1 ((2, 0, t) : Vl).2.1 else .error 12) = (.error 12 : Except Int Vl) := by
      split
      · rw [if_neg (by simp)]
      split
      · rw [if_neg (by simp)]
      · rw [if_neg (by simp)]
    rw [e]
    exact two_kind c 1 n 2 0 ⟨#[]⟩ t rfl w
  · have e : (if c = 12 then (if ((2, 0, s) : Vl).1 = 2 ∧ ((1, m, ⟨#[]⟩) : Vl).1 = 2 then (if 64 < ((2, 0, s) : Vl).2.2.size + ((1, m, ⟨#[]⟩) : Vl).2.2.size then .error 6 else .ok (2, 0, ((2, 0, s) : Vl).2.2 ++ ((1, m, ⟨#[]⟩) : Vl).2.2)) else .error 12) else if 13 ≤ c ∧ c ≤ 18 then (if ((2, 0, s) : Vl).1 = ((1, m, ⟨#[]⟩) : Vl).1 then .ok (truV (cmpB c (cmpV ((2, 0, s) : Vl) ((1, m, ⟨#[]⟩) : Vl)))) else .error 12) else if ((2, 0, s) : Vl).1 = 1 ∧ ((1, m, ⟨#[]⟩) : Vl).1 = 1 then ofNums c ((2, 0, s) : Vl).2.1 ((1, m, ⟨#[]⟩) : Vl).2.1 else .error 12) = (.error 12 : Except Int Vl) := by
      split
      · rw [if_neg (by simp)]
      split
      · rw [if_neg (by simp)]
      · rw [if_neg (by simp)]
    rw [e]
    exact two_kind c 2 0 1 m s ⟨#[]⟩ rfl w
  · by_cases h12 : c = 12
    · subst h12
      rw [if_pos rfl, if_pos ⟨rfl, rfl⟩]
      by_cases h : 64 < s.size + t.size
      · rw [if_pos h]; exact two_tLong s t hs ht h w
      · rw [if_neg h]; exact two_tCat s t hs ht h w
    rw [if_neg h12]
    have h12' : (c == 12) = false := by simpa using h12
    by_cases h13 : 13 ≤ c ∧ c ≤ 18
    · rw [if_pos h13, if_pos rfl]; exact cmp _ _ _ _ _ h13.1 h13.2
    rw [if_neg h13, if_neg (by simp)]
    by_cases hlo : 13 ≤ c
    · exact two_tNo2 c s t hlo (fun h => h13 ⟨hlo, h⟩) h12' w
    · exact two_tNo c s t hlo h12' w
end Go.Proofs.YtljkneajdndgjabGreat
