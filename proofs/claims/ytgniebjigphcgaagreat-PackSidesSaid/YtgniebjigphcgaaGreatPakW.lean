/-
  A helper of ours: no claim of its own. Layer 11 (pack): what must be whatever is asked.
-/
import Derived.Test.YtgniebjigphcgaaGreatPakE
import Derived.Test.YtgniebjigphcgaaGreatPakQ
set_option linter.unusedVariables false
set_option linter.unusedSimpArgs false
namespace Go.Proofs.YtgniebjigphcgaaGreat
open Go.RowKit
attribute [local go_sem] GW.cell GW.frozen In.eq_true In.le_true In.ne In.ne' In.ne_add In.ne_add' In.lt_add Upto.le_true Upto.le_add Upto.lt_add
/-- What is wrong with pieces that are packed; they, packed. -/
def ppE (l : List Ed) : Int := if pkE l = 0 then pcE (pkR l) else pkE l
def ppR (l : List Ed) : List Ed := if pkE l = 0 then pcR (pkR l) else []
set_option maxHeartbeats 4000000 in
set_option maxRecDepth 100000 in
theorem packPack_c (L : List Ve) (hL : L.length ≤ 4096) (v : Value) (w : World) (h : Ew w [] v L) : Calls Tryz.prog 20 #[v] w fun e w' => ∃ v' M, e = .returned (.tuple #[v', .int .i64 (ppE (eds L))]) ∧ eds M = ppR (eds L) ∧ OwnPr w' w.heap.size v' M ∧ Ext w w' := by
  have hc := hide (packEdges_c L hL v w h)
  have hpp : ppE (eds L) = if pkE (eds L) = 0 then pcE (pkR (eds L)) else pkE (eds L) := rfl
  have hpr : ppR (eds L) = if pkE (eds L) = 0 then pcR (pkR (eds L)) else [] := rfl
  generalize ppE (eds L) = E2 at *
  generalize ppR (eds L) = R2 at *
  obtain ⟨A, cap, rfl, -, -, -⟩ := ew_form h
  clear h
  by_cases hz : pkE (eds L) = 0
  · rw [if_pos hz] at hpp hpr
    rw [hz] at hc
    obtain ⟨R, hR⟩ : ∃ R, R = pkR (eds L) := ⟨_, rfl⟩
    rw [← hR] at hc hpp hpr
    replace hpp := hide hpp
    replace hpr := hide hpr
    replace hz := hide hz
    replace hR := hide hR
    go_enter Tryz.func20, Tryz.ntmps20
    go_wp2_with (first | (go_at_call 17; refine hc.out.mono ?_; rintro ee w1 ⟨v1, M1, rfl, hM1, ho1, hx1⟩; have hpc := hide (pieces_c M1 v1 w1 ho1.ew); rw [hM1] at hpc; obtain ⟨A1, c1, rfl⟩ := own_form ho1.1; replace hM1 := hide hM1; replace ho1 := hide ho1) | (go_at_call 14; refine hpc.out.mono ?_; rintro ee w2 ⟨v2, M2, rfl, hM2, ho2, hx2⟩; obtain ⟨A2, c2, rfl⟩ := own_form ho2.1; replace hM2 := hide hM2; replace ho2 := hide ho2))
    go_returns
    exact ⟨_, M2, by rw [hpp.out]; rfl, by rw [hpr.out, hM2.out], ho2.out.lower hx1.size, hx1.trans hx2⟩
  · rw [if_neg hz] at hpp hpr
    have hne : (pkE (eds L) != 0) = true := by simp [hz]
    generalize pkE (eds L) = E at *
    subst hpp
    replace hpr := hide hpr
    replace hz := hide hz
    go_enter Tryz.func20, Tryz.ntmps20
    go_wp2_with (go_at_call 17; refine hc.out.mono ?_; rintro ee w1 ⟨v1, M1, rfl, hM1, ho1, hx1⟩; obtain ⟨A1, c1, rfl⟩ := own_form ho1.1; replace hM1 := hide hM1; replace ho1 := hide ho1)
    go_returns
    exact ⟨_, [], rfl, by rw [hpr.out]; rfl, OwnPr.nil _ _, hx1⟩
end Go.Proofs.YtgniebjigphcgaaGreat
set_option linter.unusedVariables false
set_option linter.unusedSimpArgs false
namespace Go.Proofs.YtgniebjigphcgaaGreat
open Go.RowKit
attribute [local go_sem] GW.cell GW.frozen In.eq_true In.le_true In.ne In.ne' In.ne_add In.ne_add' In.lt_add Upto.le_true Upto.le_add Upto.lt_add
def pI : List Vl := [(1, 1, ⟨#[]⟩)]
theorem rwP (w : World) : Rw (w.alloc (.cells #[.int .i64 1, .int .i64 1, .string ⟨#[]⟩] 85)) [] (.slice (some ⟨w.heap.size, 0, none⟩) 1 1) pI := Sl.own (World.ownsRow_lit (base := w.heap.size) (e := 85) (size := 3) w #[.int .i64 1, .int .i64 1, .string ⟨#[]⟩] 1 (Nat.le_refl _) (by decide) rfl) (by simp)
theorem litP1 (u : Value) (r : List Vl) (j : Jp) (w : World) (h : Rw w [] u r) : Ew (w.alloc (.cells #[u, .int .i64 j.1, .int .i64 j.2] 48)) [] (.slice (some ⟨w.heap.size, 0, none⟩) 1 1) [(u, r, j)] := by
  refine ⟨Sl.own (World.ownsRow_lit (base := w.heap.size) (e := 48) (size := 3) w #[u, .int .i64 j.1, .int .i64 j.2] 1 (Nat.le_refl _) (by decide) rfl) (by simp), fun p hp => ?_⟩
  obtain rfl := List.mem_singleton.1 hp
  exact Sl.ext h ((Ext.refl w).alloc _)
theorem litP2 (u u' : Value) (r : List Vl) (j k : Jp) (w : World) (h : Rw w [] u r) (h' : Rw w [] u' r) : Ew (w.alloc (.cells #[u, .int .i64 j.1, .int .i64 j.2, u', .int .i64 k.1, .int .i64 k.2] 48)) [] (.slice (some ⟨w.heap.size, 0, none⟩) 2 2) [(u, r, j), (u', r, k)] := by
  refine ⟨Sl.own (World.ownsRow_lit (base := w.heap.size) (e := 48) (size := 3) w #[u, .int .i64 j.1, .int .i64 j.2, u', .int .i64 k.1, .int .i64 k.2] 2 (Nat.le_refl _) (by decide) rfl) (by simp), fun p hp => ?_⟩
  simp only [List.mem_cons, List.not_mem_nil, or_false] at hp
  rcases hp with rfl | rfl
  · exact Sl.ext h ((Ext.refl w).alloc _)
  · exact Sl.ext h' ((Ext.refl w).alloc _)
theorem pkI1 : ppE [(pI, (5, 9)), (pI, (2, 5))] = 0 := by decide +kernel
theorem pkI2 : ppE [(pI, (1, 10)), (pI, (3, 5))] = 0 := by decide +kernel
theorem pkV1 : ppR [(pI, (5, 9)), (pI, (2, 5))] = [(pI, (2, 9))] := by decide +kernel
theorem pkV2 : ppR [(pI, (1, 10)), (pI, (3, 5))] = [(pI, (1, 5)), (pI, (3, 10))] := by decide +kernel
theorem myI1 : mayPc (pI, (-1, 0)) = true := by decide +kernel
theorem myI2 : mayPc (pI, (3, 3)) = false := by decide +kernel
set_option maxHeartbeats 1000000 in
theorem one_c (f t : Int) (w : World) : Calls Tryz.prog 33 #[.int .i64 f, .int .i64 t] w fun e w' => ∃ A, e = .returned (em (.slice A 1 1) (f, t)) ∧ Rw w' [] (.slice A 1 1) pI ∧ Ext w w' := by
  have hrw := rwP (w.alloc (.cells #[.slice (some ⟨w.heap.size + 1, 0, none⟩) 1 1, .int .i64 f, .int .i64 t] 48))
  rw [World.size_alloc] at hrw
  replace hrw := hide hrw
  go_enter Tryz.func33, Tryz.ntmps33
  go_wp2_with fail
  go_returns
  exact ⟨_, rfl, hrw.out, ((Ext.refl w).alloc _).alloc _⟩
set_option maxHeartbeats 8000000 in
set_option maxRecDepth 100000 in
theorem pakLive_c (w : World) : Calls Tryz.prog 11 #[] w fun e w' => e = .returned (.bool true) ∧ Ext w w' := by
  go_enter Tryz.func11, Tryz.ntmps11
  go_wp2_with (first | (go_at_call 33; first | (with_reducible refine (one_c 5 9 _).mono ?_; rintro ee w1 ⟨A1, rfl, r1, x1⟩; replace r1 := hide r1; have X1 := hide (x1); clear x1) | (with_reducible refine (one_c 2 5 _).mono ?_; rintro ee w2 ⟨A2, rfl, r2, x2⟩; replace r2 := hide r2; have X2 := hide (X1.out.trans x2); have x20 := hide x2; clear x2) | (with_reducible refine (one_c 1 10 _).mono ?_; rintro ee w4 ⟨A4, rfl, r4, x4⟩; replace r4 := hide r4; have X4 := hide (X3.out.trans x4); have x40 := hide (x4); clear x4) | (with_reducible refine (one_c 3 5 _).mono ?_; rintro ee w5 ⟨A5, rfl, r5, x5⟩; replace r5 := hide r5; have X5 := hide (X4.out.trans x5); have x50 := hide x5; have x350 := hide (x40.out.trans x5); clear x5) | (with_reducible refine (one_c 2 9 _).mono ?_; rintro ee w7 ⟨A7, rfl, r7, x7⟩; replace r7 := hide r7; have X7 := hide (X6.out.trans x7); have x70 := hide x7; clear x7) | (with_reducible refine (one_c 1 5 _).mono ?_; rintro ee w9 ⟨A9, rfl, r9, x9⟩; replace r9 := hide r9; have X9 := hide (X8.out.trans x9); have x90 := hide x9; clear x9) | (with_reducible refine (one_c 3 10 _).mono ?_; rintro ee w10 ⟨A10, rfl, r10, x10⟩; replace r10 := hide r10; have X10 := hide (X9.out.trans x10); have x100 := hide x10; clear x10) | (with_reducible refine (one_c (-1) 0 _).mono ?_; rintro ee w12 ⟨A12, rfl, r12, x12⟩; replace r12 := hide r12; have X12 := hide (X11.out.trans x12); clear x12) | (with_reducible refine (one_c 3 3 _).mono ?_; rintro ee w14 ⟨A14, rfl, r14, x14⟩; replace r14 := hide r14; have X14 := hide (X13.out.trans x14); clear x14)) | (go_at_call 20; first | (refine (packPack_c [(.slice A4 1 1, pI, (1, 10)), (.slice A5 1 1, pI, (3, 5))] (by simp) _ _ (litP2 _ _ pI (1, 10) (3, 5) w5 (Sl.ext r4.out x50.out) r5.out)).mono ?_; rintro ee w6 ⟨v6, M6, rfl, hM6, o6, x6⟩; rw [show eds [((.slice A4 1 1, pI, (1, 10)) : Ve), (.slice A5 1 1, pI, (3, 5))] = [(pI, (1, 10)), (pI, (3, 5))] from rfl] at *; rw [pkI2]; rw [pkV2] at hM6; replace o6 := hide o6; have X6 := hide (X5.out.trans (((Ext.refl _).alloc _).trans x6)); have X36 := hide (x350.out.trans (((Ext.refl _).alloc _).trans x6)); clear x6; obtain ⟨B6, c6, rfl⟩ := own_form o6.out.1; replace hM6 := hide hM6) | (refine (packPack_c [(.slice A1 1 1, pI, (5, 9)), (.slice A2 1 1, pI, (2, 5))] (by simp) _ _ (litP2 _ _ pI (5, 9) (2, 5) w2 (Sl.ext r1.out x20.out) r2.out)).mono ?_; rintro ee w3 ⟨v3, M3, rfl, hM3, o3, x3⟩; rw [show eds [((.slice A1 1 1, pI, (5, 9)) : Ve), (.slice A2 1 1, pI, (2, 5))] = [(pI, (5, 9)), (pI, (2, 5))] from rfl] at *; rw [pkI1]; rw [pkV1] at hM3; replace o3 := hide o3; have X3 := hide (X2.out.trans (((Ext.refl _).alloc _).trans x3)); clear x3; obtain ⟨B3, c3, rfl⟩ := own_form o3.out.1; replace hM3 := hide hM3)) | (go_at_call 24; have hs1 := pieceSame_c (o3.out.ew.ext ((X36.out.trans x70.out).trans ((Ext.refl _).alloc _))) (litP1 (.slice A7 1 1) pI (2, 9) w7 r7.out); rw [decide_eq_true (show eds M3 = eds [((.slice A7 1 1, pI, (2, 9)) : Ve)] from hM3.out)] at hs1; replace hs1 := hide hs1; (with_reducible refine seq_gw hs1.out ?_); intro g8; have X8 := hide (X7.out.trans (((Ext.refl _).alloc _).trans g8.grown)); have X68 := hide (x70.out.trans (((Ext.refl _).alloc (.cells #[.slice A7 1 1, .int .i64 2, .int .i64 9] 48)).trans g8.grown))) | (go_at_call 16; have hs2 := refPieceSame_c (o6.out.ew.ext (((X68.out.trans x90.out).trans x100.out).trans ((Ext.refl _).alloc _))) (litP2 (.slice A9 1 1) (.slice A10 1 1) pI (1, 5) (3, 10) w10 (Sl.ext r9.out x100.out) r10.out); rw [decide_eq_true (show eds M6 = eds [((.slice A9 1 1, pI, (1, 5)) : Ve), (.slice A10 1 1, pI, (3, 10))] from hM6.out)] at hs2; replace hs2 := hide hs2; (with_reducible refine seq_gw hs2.out ?_); intro g11; have X11 := hide (X10.out.trans (((Ext.refl _).alloc _).trans g11.grown))) | (go_at_call 22; first | (have hm2 := pcMay_c pI (3, 3) (.slice A14 1 1) w14 r14.out; rw [myI2] at hm2; replace hm2 := hide hm2; (with_reducible refine seq_gw hm2.out ?_); intro g15; have X15 := hide (X14.out.trans g15.grown)) | (have hm1 := pcMay_c pI (-1, 0) (.slice A12 1 1) w12 r12.out; rw [myI1] at hm1; replace hm1 := hide hm1; (with_reducible refine seq_gw hm1.out ?_); intro g13; have X13 := hide (X12.out.trans g13.grown))))
  go_returns
  exact ⟨by first | rfl | simp, X15.out⟩
end Go.Proofs.YtgniebjigphcgaaGreat
