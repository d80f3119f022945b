/-
  A helper of ours: no claim of its own. Layer 11 (pack): what of pieces is ahead of a tick, and from it on, by the code.
-/
import Derived.Test.YtgniebjigphcgaaGreatPakE
import Derived.Test.YtgniebjigphcgaaGreatPakQ
set_option linter.unusedVariables false
set_option linter.unusedSimpArgs false
namespace Go.Proofs.YtgniebjigphcgaaGreat
open Go.RowKit
attribute [local go_sem] GW.cell GW.frozen In.eq_true In.le_true In.ne In.ne' In.ne_add In.ne_add' In.lt_add Upto.le_true Upto.le_add Upto.lt_add
/-- What is wrong with pieces that are packed; they, packed. -/
def ppE (l : List Ed) : Int := if pkE l = 0 then pcE (pkR l) else pkE l
def ppR (l : List Ed) : List Ed := if pkE l = 0 then pcR (pkR l) else []
set_option maxHeartbeats 4000000 in
set_option maxRecDepth 100000 in
theorem packPack_c (L : List Ve) (hL : L.length ≤ 4096) (v : Value) (w : World) (h : Ew w [] v L) : Calls Tryz.prog 20 #[v] w fun e w' => ∃ v' M, e = .returned (.tuple #[v', .int .i64 (ppE (eds L))]) ∧ eds M = ppR (eds L) ∧ OwnPr w' w.heap.size v' M ∧ Ext w w' := by
  have hc := hide (packEdges_c L hL v w h)
  have hpp : ppE (eds L) = if pkE (eds L) = 0 then pcE (pkR (eds L)) else pkE (eds L) := rfl
  have hpr : ppR (eds L) = if pkE (eds L) = 0 then pcR (pkR (eds L)) else [] := rfl
  generalize ppE (eds L) = E2 at *
  generalize ppR (eds L) = R2 at *
  obtain ⟨A, cap, rfl, -, -, -⟩ := ew_form h
  clear h
  by_cases hz : pkE (eds L) = 0
  · rw [if_pos hz] at hpp hpr
    rw [hz] at hc
    obtain ⟨R, hR⟩ : ∃ R, R = pkR (eds L) := ⟨_, rfl⟩
    rw [← hR] at hc hpp hpr
    replace hpp := hide hpp
    replace hpr := hide hpr
    replace hz := hide hz
    replace hR := hide hR
    go_enter Tryz.func20, Tryz.ntmps20
    go_wp2_with (first | (go_at_call 17; refine hc.out.mono ?_; rintro ee w1 ⟨v1, M1, rfl, hM1, ho1, hx1⟩; have hpc := hide (pieces_c M1 v1 w1 ho1.ew); rw [hM1] at hpc; obtain ⟨A1, c1, rfl⟩ := own_form ho1.1; replace hM1 := hide hM1; replace ho1 := hide ho1) | (go_at_call 14; refine hpc.out.mono ?_; rintro ee w2 ⟨v2, M2, rfl, hM2, ho2, hx2⟩; obtain ⟨A2, c2, rfl⟩ := own_form ho2.1; replace hM2 := hide hM2; replace ho2 := hide ho2))
    go_returns
    exact ⟨_, M2, by rw [hpp.out]; rfl, by rw [hpr.out, hM2.out], ho2.out.lower hx1.size, hx1.trans hx2⟩
  · rw [if_neg hz] at hpp hpr
    have hne : (pkE (eds L) != 0) = true := by simp [hz]
    generalize pkE (eds L) = E at *
    subst hpp
    replace hpr := hide hpr
    replace hz := hide hz
    go_enter Tryz.func20, Tryz.ntmps20
    go_wp2_with (go_at_call 17; refine hc.out.mono ?_; rintro ee w1 ⟨v1, M1, rfl, hM1, ho1, hx1⟩; obtain ⟨A1, c1, rfl⟩ := own_form ho1.1; replace hM1 := hide hM1; replace ho1 := hide ho1)
    go_returns
    exact ⟨_, [], rfl, by rw [hpr.out]; rfl, OwnPr.nil _ _, hx1⟩
end Go.Proofs.YtgniebjigphcgaaGreat
set_option linter.unusedVariables false
set_option linter.unusedSimpArgs false
namespace Go.Proofs.YtgniebjigphcgaaGreat
open Go.RowKit
attribute [local go_sem] GW.cell GW.frozen In.eq_true In.le_true In.ne In.ne' In.ne_add In.ne_add' In.lt_add Upto.le_true Upto.le_add Upto.lt_add
def pI : List Vl := [(1, 1, ⟨#[]⟩)]
theorem rwP (w : World) : Rw (w.alloc (.cells #[.int .i64 1, .int .i64 1, .string ⟨#[]⟩] 85)) [] (.slice (some ⟨w.heap.size, 0, none⟩) 1 1) pI := Sl.own (World.ownsRow_lit (base := w.heap.size) (e := 85) (size := 3) w #[.int .i64 1, .int .i64 1, .string ⟨#[]⟩] 1 (Nat.le_refl _) (by decide) rfl) (by simp)
theorem litP1 (u : Value) (r : List Vl) (j : Jp) (w : World) (h : Rw w [] u r) : Ew (w.alloc (.cells #[u, .int .i64 j.1, .int .i64 j.2] 48)) [] (.slice (some ⟨w.heap.size, 0, none⟩) 1 1) [(u, r, j)] := by
  refine ⟨Sl.own (World.ownsRow_lit (base := w.heap.size) (e := 48) (size := 3) w #[u, .int .i64 j.1, .int .i64 j.2] 1 (Nat.le_refl _) (by decide) rfl) (by simp), fun p hp => ?_⟩
  obtain rfl := List.mem_singleton.1 hp
  exact Sl.ext h ((Ext.refl w).alloc _)
theorem litP2 (u u' : Value) (r : List Vl) (j k : Jp) (w : World) (h : Rw w [] u r) (h' : Rw w [] u' r) : Ew (w.alloc (.cells #[u, .int .i64 j.1, .int .i64 j.2, u', .int .i64 k.1, .int .i64 k.2] 48)) [] (.slice (some ⟨w.heap.size, 0, none⟩) 2 2) [(u, r, j), (u', r, k)] := by
  refine ⟨Sl.own (World.ownsRow_lit (base := w.heap.size) (e := 48) (size := 3) w #[u, .int .i64 j.1, .int .i64 j.2, u', .int .i64 k.1, .int .i64 k.2] 2 (Nat.le_refl _) (by decide) rfl) (by simp), fun p hp => ?_⟩
  simp only [List.mem_cons, List.not_mem_nil, or_false] at hp
  rcases hp with rfl | rfl
  · exact Sl.ext h ((Ext.refl w).alloc _)
  · exact Sl.ext h' ((Ext.refl w).alloc _)
theorem pkI1 : ppE [(pI, (5, 9)), (pI, (2, 5))] = 0 := by decide +kernel
theorem pkI2 : ppE [(pI, (1, 10)), (pI, (3, 5))] = 0 := by decide +kernel
theorem pkV1 : ppR [(pI, (5, 9)), (pI, (2, 5))] = [(pI, (2, 9))] := by decide +kernel
theorem pkV2 : ppR [(pI, (1, 10)), (pI, (3, 5))] = [(pI, (1, 5)), (pI, (3, 10))] := by decide +kernel
theorem myI1 : mayPc (pI, (-1, 0)) = true := by decide +kernel
theorem myI2 : mayPc (pI, (3, 3)) = false := by decide +kernel
set_option maxHeartbeats 1000000 in
theorem one_c (f t : Int) (w : World) : Calls Tryz.prog 33 #[.int .i64 f, .int .i64 t] w fun e w' => ∃ A, e = .returned (em (.slice A 1 1) (f, t)) ∧ Rw w' [] (.slice A 1 1) pI ∧ Ext w w' := by
  have hrw := rwP (w.alloc (.cells #[.slice (some ⟨w.heap.size + 1, 0, none⟩) 1 1, .int .i64 f, .int .i64 t] 48))
  rw [World.size_alloc] at hrw
  replace hrw := hide hrw
  go_enter Tryz.func33, Tryz.ntmps33
  go_wp2_with fail
  go_returns
  exact ⟨_, rfl, hrw.out, ((Ext.refl w).alloc _).alloc _⟩
set_option maxHeartbeats 8000000 in
set_option maxRecDepth 100000 in
theorem pakLive_c (w : World) : Calls Tryz.prog 11 #[] w fun e w' => e = .returned (.bool true) ∧ Ext w w' := by
  go_enter Tryz.func11, Tryz.ntmps11
  go_wp2_with (first | (go_at_call 33; first | (with_reducible refine (one_c 5 9 _).mono ?_; rintro ee w1 ⟨A1, rfl, r1, x1⟩; replace r1 := hide r1; have X1 := hide (x1); clear x1) | (with_reducible refine (one_c 2 5 _).mono ?_; rintro ee w2 ⟨A2, rfl, r2, x2⟩; replace r2 := hide r2; have X2 := hide (X1.out.trans x2); have x20 := hide x2; clear x2) | (with_reducible refine (one_c 1 10 _).mono ?_; rintro ee w4 ⟨A4, rfl, r4, x4⟩; replace r4 := hide r4; have X4 := hide (X3.out.trans x4); have x40 := hide (x4); clear x4) | (with_reducible refine (one_c 3 5 _).mono ?_; rintro ee w5 ⟨A5, rfl, r5, x5⟩; replace r5 := hide r5; have X5 := hide (X4.out.trans x5); have x50 := hide x5; have x350 := hide (x40.out.trans x5); clear x5) | (with_reducible refine (one_c 2 9 _).mono ?_; rintro ee w7 ⟨A7, rfl, r7, x7⟩; replace r7 := hide r7; have X7 := hide (X6.out.trans x7); have x70 := hide x7; clear x7) | (with_reducible refine (one_c 1 5 _).mono ?_; rintro ee w9 ⟨A9, rfl, r9, x9⟩; replace r9 := hide r9; have X9 := hide (X8.out.trans x9); have x90 := hide x9; clear x9) | (with_reducible refine (one_c 3 10 _).mono ?_; rintro ee w10 ⟨A10, rfl, r10, x10⟩; replace r10 := hide r10; have X10 := hide (X9.out.trans x10); have x100 := hide x10; clear x10) | (with_reducible refine (one_c (-1) 0 _).mono ?_; rintro ee w12 ⟨A12, rfl, r12, x12⟩; replace r12 := hide r12; have X12 := hide (X11.out.trans x12); clear x12) | (with_reducible refine (one_c 3 3 _).mono ?_; rintro ee w14 ⟨A14, rfl, r14, x14⟩; replace r14 := hide r14; have X14 := hide (X13.out.trans x14); clear x14)) | (go_at_call 20; first | (refine (packPack_c [(.slice A4 1 1, pI, (1, 10)), (.slice A5 1 1, pI, (3, 5))] (by simp) _ _ (litP2 _ _ pI (1, 10) (3, 5) w5 (Sl.ext r4.out x50.out) r5.out)).mono ?_; rintro ee w6 ⟨v6, M6, rfl, hM6, o6, x6⟩; rw [show eds [((.slice A4 1 1, pI, (1, 10)) : Ve), (.slice A5 1 1, pI, (3, 5))] = [(pI, (1, 10)), (pI, (3, 5))] from rfl] at *; rw [pkI2]; rw [pkV2] at hM6; replace o6 := hide o6; have X6 := hide (X5.out.trans (((Ext.refl _).alloc _).trans x6)); have X36 := hide (x350.out.trans (((Ext.refl _).alloc _).trans x6)); clear x6; obtain ⟨B6, c6, rfl⟩ := own_form o6.out.1; replace hM6 := hide hM6) | (refine (packPack_c [(.slice A1 1 1, pI, (5, 9)), (.slice A2 1 1, pI, (2, 5))] (by simp) _ _ (litP2 _ _ pI (5, 9) (2, 5) w2 (Sl.ext r1.out x20.out) r2.out)).mono ?_; rintro ee w3 ⟨v3, M3, rfl, hM3, o3, x3⟩; rw [show eds [((.slice A1 1 1, pI, (5, 9)) : Ve), (.slice A2 1 1, pI, (2, 5))] = [(pI, (5, 9)), (pI, (2, 5))] from rfl] at *; rw [pkI1]; rw [pkV1] at hM3; replace o3 := hide o3; have X3 := hide (X2.out.trans (((Ext.refl _).alloc _).trans x3)); clear x3; obtain ⟨B3, c3, rfl⟩ := own_form o3.out.1; replace hM3 := hide hM3)) | (go_at_call 24; have hs1 := pieceSame_c (o3.out.ew.ext ((X36.out.trans x70.out).trans ((Ext.refl _).alloc _))) (litP1 (.slice A7 1 1) pI (2, 9) w7 r7.out); rw [decide_eq_true (show eds M3 = eds [((.slice A7 1 1, pI, (2, 9)) : Ve)] from hM3.out)] at hs1; replace hs1 := hide hs1; (with_reducible refine seq_gw hs1.out ?_); intro g8; have X8 := hide (X7.out.trans (((Ext.refl _).alloc _).trans g8.grown)); have X68 := hide (x70.out.trans (((Ext.refl _).alloc (.cells #[.slice A7 1 1, .int .i64 2, .int .i64 9] 48)).trans g8.grown))) | (go_at_call 16; have hs2 := refPieceSame_c (o6.out.ew.ext (((X68.out.trans x90.out).trans x100.out).trans ((Ext.refl _).alloc _))) (litP2 (.slice A9 1 1) (.slice A10 1 1) pI (1, 5) (3, 10) w10 (Sl.ext r9.out x100.out) r10.out); rw [decide_eq_true (show eds M6 = eds [((.slice A9 1 1, pI, (1, 5)) : Ve), (.slice A10 1 1, pI, (3, 10))] from hM6.out)] at hs2; replace hs2 := hide hs2; (with_reducible refine seq_gw hs2.out ?_); intro g11; have X11 := hide (X10.out.trans (((Ext.refl _).alloc _).trans g11.grown))) | (go_at_call 22; first | (have hm2 := pcMay_c pI (3, 3) (.slice A14 1 1) w14 r14.out; rw [myI2] at hm2; replace hm2 := hide hm2; (with_reducible refine seq_gw hm2.out ?_); intro g15; have X15 := hide (X14.out.trans g15.grown)) | (have hm1 := pcMay_c pI (-1, 0) (.slice A12 1 1) w12 r12.out; rw [myI1] at hm1; replace hm1 := hide hm1; (with_reducible refine seq_gw hm1.out ?_); intro g13; have X13 := hide (X12.out.trans g13.grown))))
  go_returns
  exact ⟨by first | rfl | simp, X15.out⟩
end Go.Proofs.YtgniebjigphcgaaGreat
set_option linter.unusedVariables false
set_option linter.unusedSimpArgs false
namespace Go.Proofs.YtgniebjigphcgaaGreat
open Go.RowKit
attribute [local go_sem] GW.cell GW.frozen In.eq_true In.le_true In.ne In.ne' In.ne_add In.ne_add' In.lt_add Upto.le_true Upto.le_add Upto.lt_add
set_option maxHeartbeats 2000000 in
theorem piece_c (q : List Vl) (f t : Int) (v : Value) (w : World) (h : Rw w [] v q) (hz : q.length * 32 ≤ 140737488351232) : Calls Tryz.prog 64 #[v, .int .i64 f, .int .i64 t] w fun e w' => ∃ A cp, e = .returned (em (.slice A q.length cp) (f, t)) ∧ OwnR w' w.heap.size (.slice A q.length cp) q ∧ Ext w w' := by
  have hc := hide (fun w' (hX : Ext w w') => rowCopy_c q v w' (Sl.ext h hX) hz)
  have hX0 := hide ((Ext.refl w).alloc (.cells #[.slice none 0 0, .int .i64 0, .int .i64 0] 48))
  have O0 := hide (Ob.new w 48 [.slice none 0 0, .int .i64 0, .int .i64 0])
  obtain ⟨VA, vcap, rfl⟩ := rw_val h
  clear h
  go_enter Tryz.func64, Tryz.ntmps64
  go_wp2_with (go_at_call 43; refine (hc.out _ hX0.out).mono ?_; rintro ee w1 ⟨v1, rfl, ho1, hx1⟩; have O1 := O0.out.ext hx1; have c0 := O1.cell 0 rfl; have c1 := O1.cell 1 rfl; have c2 := O1.cell 2 rfl; have z0 := O1.free 0; have z1 := O1.free 1; have z2 := O1.free 2; have hlt1 := O1.lt; haveI : In w.heap.size w1 := ⟨hlt1⟩; obtain ⟨A1, cp1, rfl⟩ := own_form ho1)
  refine bodyPost_ret (by simp [results, Tryz.results64, go_sem, c0, c1, c2]; try rfl) rfl ?_
  have hF := (((Fr.refl [w.heap.size] w1).setCell ⟨w.heap.size, 0, none⟩ (.slice A1 q.length cp1) (.inl (by simp))).setCell ⟨w.heap.size, 1, none⟩ (.int .i64 f) (.inl (by simp))).setCell ⟨w.heap.size, 2, none⟩ (.int .i64 t) (.inl (by simp))
  exact ⟨_, _, rfl, own_base (own_fr ho1 hF (by intro x hx; simp at hx; subst hx; simp)) (by simp), ext_fr (hX0.out.trans hx1) hF (by intro x hx; simp at hx; omega)⟩
end Go.Proofs.YtgniebjigphcgaaGreat
set_option linter.unusedVariables false
set_option linter.unusedSimpArgs false
namespace Go.Proofs.YtgniebjigphcgaaGreat
open Go.RowKit
attribute [local go_sem] GW.cell GW.frozen In.eq_true In.le_true In.ne In.ne' In.ne_add In.ne_add' In.lt_add Upto.le_true Upto.le_add Upto.lt_add
/-- What of a piece is ahead of a tick, what is from it on. -/
def pcAh (t : Int) (e : Ed) : List Ed := if e.2.1 < t then [(e.1, (e.2.1, min e.2.2 t))] else []
def pcRe (t : Int) (e : Ed) : List Ed := if t < e.2.2 then [(e.1, (max e.2.1 t, e.2.2))] else []
set_option maxHeartbeats 8000000 in
set_option maxRecDepth 100000 in
theorem packAhead_c (L : List Ve) (t : Int) (hL : L.length * 40 ≤ 140737488351232) (hr : ∀ p ∈ L, p.2.1.length * 32 ≤ 140737488351232) (v : Value) (w : World) (h : Ew w [] v L) : Calls Tryz.prog 28 #[v, .int .i64 t] w fun e w' => ∃ v' M, e = .returned v' ∧ eds M = (eds L).flatMap (pcAh t) ∧ OwnPr w' w.heap.size v' M ∧ Ext w w' := by
  obtain ⟨A, cap, rfl, hlc, hlm, hat⟩ := ew_form h
  unfold maxLen at hlm
  have hv := hide h
  replace hat := hide hat
  replace hr := hide hr
  clear h
  go_enter Tryz.func28, Tryz.ntmps28
  go_wp2_with fail
  go_loopg [5, 10] L.length (fun gh vv i wr => ∃ (k : Nat) (N : List Ve), i = .int .i64 k ∧ k + gh = L.length ∧ OwnPr wr w.heap.size vv N ∧ N.length ≤ k ∧ Hid (eds N = (eds (L.take k)).flatMap (pcAh t)) ∧ Ext w wr)
  case atStart => exact ⟨0, [], rfl, by omega, OwnPr.nil _ _, Nat.le_refl _, (by show _ = _; simp [eds]), Ext.refl _⟩
  case round =>
    obtain ⟨k, N, rfl, hk, ho, hNk, hN, hX⟩ := hrel
    have hzX := hX.size
    by_cases hlt : k < L.length
    · obtain ⟨x, hx⟩ : ∃ x, L[k]? = some x := ⟨_, List.getElem?_eq_getElem hlt⟩
      obtain ⟨b, o, rfl, -, hb, c0, c1, c2⟩ := hat.out k x hx
      have k0 := cell_later hX c0
      have k1 := cell_later hX c1
      have k2 := cell_later hX c2
      have hbr : b < wr.heap.size := block_lt_of_cell k0
      have hrw := Sl.ext (hv.out.2 x (List.mem_of_getElem? hx)) hX
      have hrz := hr.out x (List.mem_of_getElem? hx)
      have hnx : Hid (eds N ++ pcAh t x.2 = (eds (L.take (k + 1))).flatMap (pcAh t)) := by
        show _ = _
        rw [List.take_add_one, hx, Option.toList_some, hN.out]; simp [eds]
      obtain ⟨xv, xq, xa, xn⟩ := x
      simp only at k0 k1 k2 hrw hnx hrz
      have hpc := hide (fun f' t' w' (hX' : Ext wr w') => piece_c xq f' t' xv w' (Sl.ext hrw hX') hrz)
      obtain ⟨XA, xcap, rfl⟩ := rw_val hrw
      have ho0 := hide ho
      obtain ⟨C, ccap, rfl⟩ := own_form ho.1
      clear c0 c1 c2 hat hx hrw hv ho hN hr
      by_cases hc : xa < t
      · have d1 : decide (xa < t) = true := decide_eq_true hc
        unfold pcAh at hnx
        rw [if_pos hc] at hnx
        by_cases hm : xn ≤ t
        · have hmm : min xn t = xn := by omega
          rw [hmm] at hnx
          go_wp2_with (first | (go_at_call 64; refine (hpc.out _ _ _ ((Ext.refl wr).alloc _)).mono ?_; rintro ee w5 ⟨A5, c5, rfl, ho5, hx5⟩; have hX5 := hide (((Ext.refl wr).alloc (.cells #[.slice XA xq.length xcap, .int .i64 xa, .int .i64 xn] 48)).trans hx5); have hlit := hide (litP1 (.slice A5 xq.length c5) xq (xa, xn) w5 (Sl.own (S := []) ho5 (by simp))); have hX6 := hide (hX5.out.trans ((Ext.refl w5).alloc (.cells #[.slice A5 xq.length c5, .int .i64 xa, .int .i64 xn] 48)))) | (at_builtin; (refine wpl_app tPc rfl (.tmp 19) (.tmp 31) rfl rfl (own_ext ho0.out.1 hX6.out) rfl (src_sl Tryz.underlying33 hlit.out.1 (Ew.one hlit.out) (by omega)) (by unfold maxLen; show N.length + 1 ≤ _; omega) (by show (N.length + 1) * 40 ≤ _; omega) (Nat.le_trans hzX hX6.out.size) ?_; intro v8 w8 ho8 hg8 hob8; have hX8 := hide (ext_grown (hX.trans hX6.out) hg8 (fun q hq => (ho0.out.1.lt q hq).1)))))
          go_roundg (L.length - (k + 1))
          case measure => omega
          case rel =>
            have ho9 : OwnPr w8 w.heap.size v8 (N ++ [(.slice A5 xq.length c5, xq, (xa, xn))]) := (ho0.out.ext hX6.out).app (own_appP (M := [(.slice A5 xq.length c5, xq, (xa, xn))]) (by simpa [ec, ec1] using ho8)) hg8 hob8 (fun p hp => by
              obtain rfl := List.mem_singleton.1 hp
              refine ⟨List.range wr.heap.size, Sl.ext (Sl.own ho5 (fun k hk => by have := List.mem_range.1 hk; have := hx5.size; simp only [World.size_alloc] at *; omega)) ((Ext.refl w5).alloc _), fun q hq => List.mem_range.2 ?_⟩
              rcases List.mem_append.1 hq with hq | hq
              · have := (ob_ge ho0.out.1 q hq).2; omega
              · have := List.mem_range.1 hq; omega)
            exact ⟨k + 1, _, by go_num, by omega, ho9, by rw [List.length_append, List.length_singleton]; omega, by show _ = _; rw [eds, List.map_append]; exact hnx.out, hX8.out⟩
        · have hm' : ¬ (xn ≤ t) := hm
          have hmm : min xn t = t := by omega
          rw [hmm] at hnx
          go_wp2_with (first | (go_at_call 64; refine (hpc.out _ _ _ ((Ext.refl wr).alloc _)).mono ?_; rintro ee w5 ⟨A5, c5, rfl, ho5, hx5⟩; have hX5 := hide (((Ext.refl wr).alloc (.cells #[.slice XA xq.length xcap, .int .i64 xa, .int .i64 xn] 48)).trans hx5); have hlit := hide (litP1 (.slice A5 xq.length c5) xq (xa, t) w5 (Sl.own (S := []) ho5 (by simp))); have hX6 := hide (hX5.out.trans ((Ext.refl w5).alloc (.cells #[.slice A5 xq.length c5, .int .i64 xa, .int .i64 t] 48)))) | (at_builtin; (refine wpl_app tPc rfl (.tmp 19) (.tmp 31) rfl rfl (own_ext ho0.out.1 hX6.out) rfl (src_sl Tryz.underlying33 hlit.out.1 (Ew.one hlit.out) (by omega)) (by unfold maxLen; show N.length + 1 ≤ _; omega) (by show (N.length + 1) * 40 ≤ _; omega) (Nat.le_trans hzX hX6.out.size) ?_; intro v8 w8 ho8 hg8 hob8; have hX8 := hide (ext_grown (hX.trans hX6.out) hg8 (fun q hq => (ho0.out.1.lt q hq).1)))))
          go_roundg (L.length - (k + 1))
          case measure => omega
          case rel =>
            have ho9 : OwnPr w8 w.heap.size v8 (N ++ [(.slice A5 xq.length c5, xq, (xa, t))]) := (ho0.out.ext hX6.out).app (own_appP (M := [(.slice A5 xq.length c5, xq, (xa, t))]) (by simpa [ec, ec1] using ho8)) hg8 hob8 (fun p hp => by
              obtain rfl := List.mem_singleton.1 hp
              refine ⟨List.range wr.heap.size, Sl.ext (Sl.own ho5 (fun k hk => by have := List.mem_range.1 hk; have := hx5.size; simp only [World.size_alloc] at *; omega)) ((Ext.refl w5).alloc _), fun q hq => List.mem_range.2 ?_⟩
              rcases List.mem_append.1 hq with hq | hq
              · have := (ob_ge ho0.out.1 q hq).2; omega
              · have := List.mem_range.1 hq; omega)
            exact ⟨k + 1, _, by go_num, by omega, ho9, by rw [List.length_append, List.length_singleton]; omega, by show _ = _; rw [eds, List.map_append]; exact hnx.out, hX8.out⟩
      · have d1 : decide (xa < t) = false := decide_eq_false hc
        unfold pcAh at hnx
        rw [if_neg hc, List.append_nil] at hnx
        go_wp2_with fail
        go_roundg (L.length - (k + 1))
        case measure => omega
        case rel => exact ⟨k + 1, _, by go_num, by omega, ho0.out.ext ((Ext.refl wr).alloc _), by omega, hnx, hX.alloc _⟩
    · have hk' : k = L.length := by omega
      have hge : (L.length : Int) ≤ k := by omega
      have hN2 := hN.out
      rw [hk', List.take_length] at hN2
      replace hN2 := hide hN2
      replace hk' := hide hk'
      obtain ⟨C, ccap, rfl⟩ := own_form ho.1
      clear hN hat
      go_wp2_with fail
      go_returns
      exact ⟨_, N, rfl, hN2.out, ho, hX⟩
set_option maxHeartbeats 8000000 in
set_option maxRecDepth 100000 in
theorem packRest_c (L : List Ve) (t : Int) (hL : L.length * 40 ≤ 140737488351232) (hr : ∀ p ∈ L, p.2.1.length * 32 ≤ 140737488351232) (v : Value) (w : World) (h : Ew w [] v L) : Calls Tryz.prog 30 #[v, .int .i64 t] w fun e w' => ∃ v' M, e = .returned v' ∧ eds M = (eds L).flatMap (pcRe t) ∧ OwnPr w' w.heap.size v' M ∧ Ext w w' := by
  obtain ⟨A, cap, rfl, hlc, hlm, hat⟩ := ew_form h
  unfold maxLen at hlm
  have hv := hide h
  replace hat := hide hat
  replace hr := hide hr
  clear h
  go_enter Tryz.func30, Tryz.ntmps30
  go_wp2_with fail
  go_loopg [5, 10] L.length (fun gh vv i wr => ∃ (k : Nat) (N : List Ve), i = .int .i64 k ∧ k + gh = L.length ∧ OwnPr wr w.heap.size vv N ∧ N.length ≤ k ∧ Hid (eds N = (eds (L.take k)).flatMap (pcRe t)) ∧ Ext w wr)
  case atStart => exact ⟨0, [], rfl, by omega, OwnPr.nil _ _, Nat.le_refl _, (by show _ = _; simp [eds]), Ext.refl _⟩
  case round =>
    obtain ⟨k, N, rfl, hk, ho, hNk, hN, hX⟩ := hrel
    have hzX := hX.size
    by_cases hlt : k < L.length
    · obtain ⟨x, hx⟩ : ∃ x, L[k]? = some x := ⟨_, List.getElem?_eq_getElem hlt⟩
      obtain ⟨b, o, rfl, -, hb, c0, c1, c2⟩ := hat.out k x hx
      have k0 := cell_later hX c0
      have k1 := cell_later hX c1
      have k2 := cell_later hX c2
      have hbr : b < wr.heap.size := block_lt_of_cell k0
      have hrw := Sl.ext (hv.out.2 x (List.mem_of_getElem? hx)) hX
      have hrz := hr.out x (List.mem_of_getElem? hx)
      have hnx : Hid (eds N ++ pcRe t x.2 = (eds (L.take (k + 1))).flatMap (pcRe t)) := by
        show _ = _
        rw [List.take_add_one, hx, Option.toList_some, hN.out]; simp [eds]
      obtain ⟨xv, xq, xa, xn⟩ := x
      simp only at k0 k1 k2 hrw hnx hrz
      have hpc := hide (fun f' t' w' (hX' : Ext wr w') => piece_c xq f' t' xv w' (Sl.ext hrw hX') hrz)
      obtain ⟨XA, xcap, rfl⟩ := rw_val hrw
      have ho0 := hide ho
      obtain ⟨C, ccap, rfl⟩ := own_form ho.1
      clear c0 c1 c2 hat hx hrw hv ho hN hr
      by_cases hc : t < xn
      · have d1 : decide (t < xn) = true := decide_eq_true hc
        unfold pcRe at hnx
        rw [if_pos hc] at hnx
        by_cases hm : t ≤ xa
        · have hmm : max xa t = xa := by omega
          rw [hmm] at hnx
          go_wp2_with (first | (go_at_call 64; refine (hpc.out _ _ _ ((Ext.refl wr).alloc _)).mono ?_; rintro ee w5 ⟨A5, c5, rfl, ho5, hx5⟩; have hX5 := hide (((Ext.refl wr).alloc (.cells #[.slice XA xq.length xcap, .int .i64 xa, .int .i64 xn] 48)).trans hx5); have hlit := hide (litP1 (.slice A5 xq.length c5) xq (xa, xn) w5 (Sl.own (S := []) ho5 (by simp))); have hX6 := hide (hX5.out.trans ((Ext.refl w5).alloc (.cells #[.slice A5 xq.length c5, .int .i64 xa, .int .i64 xn] 48)))) | (at_builtin; (refine wpl_app tPc rfl (.tmp 19) (.tmp 31) rfl rfl (own_ext ho0.out.1 hX6.out) rfl (src_sl Tryz.underlying33 hlit.out.1 (Ew.one hlit.out) (by omega)) (by unfold maxLen; show N.length + 1 ≤ _; omega) (by show (N.length + 1) * 40 ≤ _; omega) (Nat.le_trans hzX hX6.out.size) ?_; intro v8 w8 ho8 hg8 hob8; have hX8 := hide (ext_grown (hX.trans hX6.out) hg8 (fun q hq => (ho0.out.1.lt q hq).1)))))
          go_roundg (L.length - (k + 1))
          case measure => omega
          case rel =>
            have ho9 : OwnPr w8 w.heap.size v8 (N ++ [(.slice A5 xq.length c5, xq, (xa, xn))]) := (ho0.out.ext hX6.out).app (own_appP (M := [(.slice A5 xq.length c5, xq, (xa, xn))]) (by simpa [ec, ec1] using ho8)) hg8 hob8 (fun p hp => by
              obtain rfl := List.mem_singleton.1 hp
              refine ⟨List.range wr.heap.size, Sl.ext (Sl.own ho5 (fun k hk => by have := List.mem_range.1 hk; have := hx5.size; simp only [World.size_alloc] at *; omega)) ((Ext.refl w5).alloc _), fun q hq => List.mem_range.2 ?_⟩
              rcases List.mem_append.1 hq with hq | hq
              · have := (ob_ge ho0.out.1 q hq).2; omega
              · have := List.mem_range.1 hq; omega)
            exact ⟨k + 1, _, by go_num, by omega, ho9, by rw [List.length_append, List.length_singleton]; omega, by show _ = _; rw [eds, List.map_append]; exact hnx.out, hX8.out⟩
        · have hm' : ¬ (t ≤ xa) := hm
          have hmm : max xa t = t := by omega
          rw [hmm] at hnx
          go_wp2_with (first | (go_at_call 64; refine (hpc.out _ _ _ ((Ext.refl wr).alloc _)).mono ?_; rintro ee w5 ⟨A5, c5, rfl, ho5, hx5⟩; have hX5 := hide (((Ext.refl wr).alloc (.cells #[.slice XA xq.length xcap, .int .i64 xa, .int .i64 xn] 48)).trans hx5); have hlit := hide (litP1 (.slice A5 xq.length c5) xq (t, xn) w5 (Sl.own (S := []) ho5 (by simp))); have hX6 := hide (hX5.out.trans ((Ext.refl w5).alloc (.cells #[.slice A5 xq.length c5, .int .i64 t, .int .i64 xn] 48)))) | (at_builtin; (refine wpl_app tPc rfl (.tmp 19) (.tmp 31) rfl rfl (own_ext ho0.out.1 hX6.out) rfl (src_sl Tryz.underlying33 hlit.out.1 (Ew.one hlit.out) (by omega)) (by unfold maxLen; show N.length + 1 ≤ _; omega) (by show (N.length + 1) * 40 ≤ _; omega) (Nat.le_trans hzX hX6.out.size) ?_; intro v8 w8 ho8 hg8 hob8; have hX8 := hide (ext_grown (hX.trans hX6.out) hg8 (fun q hq => (ho0.out.1.lt q hq).1)))))
          go_roundg (L.length - (k + 1))
          case measure => omega
          case rel =>
            have ho9 : OwnPr w8 w.heap.size v8 (N ++ [(.slice A5 xq.length c5, xq, (t, xn))]) := (ho0.out.ext hX6.out).app (own_appP (M := [(.slice A5 xq.length c5, xq, (t, xn))]) (by simpa [ec, ec1] using ho8)) hg8 hob8 (fun p hp => by
              obtain rfl := List.mem_singleton.1 hp
              refine ⟨List.range wr.heap.size, Sl.ext (Sl.own ho5 (fun k hk => by have := List.mem_range.1 hk; have := hx5.size; simp only [World.size_alloc] at *; omega)) ((Ext.refl w5).alloc _), fun q hq => List.mem_range.2 ?_⟩
              rcases List.mem_append.1 hq with hq | hq
              · have := (ob_ge ho0.out.1 q hq).2; omega
              · have := List.mem_range.1 hq; omega)
            exact ⟨k + 1, _, by go_num, by omega, ho9, by rw [List.length_append, List.length_singleton]; omega, by show _ = _; rw [eds, List.map_append]; exact hnx.out, hX8.out⟩
      · have d1 : decide (t < xn) = false := decide_eq_false hc
        unfold pcRe at hnx
        rw [if_neg hc, List.append_nil] at hnx
        go_wp2_with fail
        go_roundg (L.length - (k + 1))
        case measure => omega
        case rel => exact ⟨k + 1, _, by go_num, by omega, ho0.out.ext ((Ext.refl wr).alloc _), by omega, hnx, hX.alloc _⟩
    · have hk' : k = L.length := by omega
      have hge : (L.length : Int) ≤ k := by omega
      have hN2 := hN.out
      rw [hk', List.take_length] at hN2
      replace hN2 := hide hN2
      replace hk' := hide hk'
      obtain ⟨C, ccap, rfl⟩ := own_form ho.1
      clear hN hat
      go_wp2_with fail
      go_returns
      exact ⟨_, N, rfl, hN2.out, ho, hX⟩
end Go.Proofs.YtgniebjigphcgaaGreat
