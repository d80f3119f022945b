/-
  A helper of ours: no claim of its own. The closed facts of the row of PastFinds, one by one.
-/
import Derived.Test.YtajelkkiijdegaaGreatPqE
import Derived.Test.YtajelkkiijdegaaGreatRows
import Derived.Test.YtajelkkiijdegaaGreatChecked
import Derived.WalkKit
import Derived.ProofKit
import Derived.JoinedCond
set_option linter.unusedVariables false
set_option linter.unusedSimpArgs false
namespace Go.Proofs.YtajelkkiijdegaaGreat
open Go.RowKit
attribute [local go_sem] GW.cell GW.frozen In.eq_true In.le_true In.ne In.ne' In.ne_add In.ne_add' In.lt_add Upto.le_true Upto.le_add Upto.lt_add
namespace Fnd
theorem past_e {sc : List Cl} {l : List PM} {B p mb r k : Nat} {sv : Value} {w : World} (h : TQ sc l B p mb r sv k k w) (hl : l.length ≤ 400) (pk pi pf pt : Int) (pr : List Vl) (rv : Value) (hq : l[k]? = some ((pk, pi, pf, pt), pr)) (hin : inM ((pk, pi, pf, pt), pr)) (hrv : Rw w [] rv pr) (hbw : B ≤ w.heap.size) (hbm : B ≤ mb) (hbp : B ≤ p) :
    Calls Tryz.prog 10 #[.pointer (some ⟨p, 0, none⟩), mg pk pi pf pt rv] w fun e w' => ∃ (C1 : Int) (CA : Option Addr) (cn cc : Nat) (o1 o2 n1 n2 : Int), e = .returned (.tuple #[.agg #[.int .i64 C1, .slice CA cn cc, .int .i64 o1, .int .i64 o2, .int .i64 n1, .int .i64 n2], .int .i64 (resP sc (runP sc (0, []) (l.take k)) ((pk, pi, pf, pt), pr))]) ∧ TQ sc l B p mb r sv (k + 1) k w' ∧ Kq p mb w w' ∧ Below B w w' :=
  (tq_past h hl pk pi pf pt pr rv hq hin hrv hbw hbm hbp).mono fun e w' ⟨cv, he, hr, hT, hK, hB⟩ => by
    obtain ⟨CA, cc, ec⟩ := rwo_val hr
    exact ⟨_, CA, _, cc, _, _, _, _, by rw [he, ec]; try rfl, hT, hK, hB⟩
theorem doc_e {sc : List Cl} {l : List PM} {B p mb r k : Nat} {sv : Value} {w : World} (h : TQ sc l B p mb r sv (k + 1) k w) (hl : l.length ≤ 400) (pk pi pf pt : Int) (pr : List Vl) (rv : Value) (hq : l[k]? = some ((pk, pi, pf, pt), pr)) (hsc : Cw w [] sv sc) (hrv : Rw w [] rv pr) (hbw : B ≤ w.heap.size) :
    Calls Tryz.prog 11 #[.pointer (some ⟨r, 0, none⟩), mg pk pi pf pt rv] w fun e w' => ∃ (C1 : Int) (CA : Option Addr) (cn cc : Nat) (o1 o2 n1 n2 : Int), e = .returned (.tuple #[.agg #[.int .i64 C1, .slice CA cn cc, .int .i64 o1, .int .i64 o2, .int .i64 n1, .int .i64 n2], .int .i64 (resP sc (runP sc (0, []) (l.take k)) ((pk, pi, pf, pt), pr))]) ∧ TQ sc l B p mb r sv (k + 1) (k + 1) w' ∧ Below B w w' ∧ (∀ b T vs, Ob w b T vs → 51 ≠ T → 59 ≠ T → 4 ≠ T → Ob w' b T vs) :=
  (tq_doc h hl pk pi pf pt pr rv hq hsc hrv hbw).mono fun e w' ⟨cv, he, hr, hT, hB, hO⟩ => by
    obtain ⟨CA, cc, ec⟩ := rwo_val hr
    exact ⟨_, CA, _, cc, _, _, _, _, by rw [he, ec]; try rfl, hT, hB, hO⟩
abbrev oCol : Obj := .cells #[.string ⟨#[97]⟩, .int .i64 1] 87
theorem cw_ob {w : World} {b : Nat} (o : Ob w b 87 [.string ⟨#[97]⟩, .int .i64 1]) : Cw w [] (.slice (some ⟨b, 0, none⟩) 1 1) colA := by
  refine ⟨some ⟨b, 0, none⟩, 1, rfl, Nat.le_refl _, by decide, rfl, .inr ⟨b, 0, rfl, by simp, fun j u hj => ?_⟩⟩
  rw [Nat.zero_add]
  exact o.cell j hj
set_option maxHeartbeats 16000000 in
set_option maxRecDepth 100000 in
theorem walk (l : List Vm) (hi : ∀ p ∈ l, inM p.2) (id : Int) (hid : inI id) (u : Value) (w : World) (hl : Mw w [] u l) : Calls Tryz.prog 4 #[u, .int .i64 id] w fun e w' => e = .returned (.bool true) ∧ Ext w w' := by
  by_cases hs : l.length ≤ 200
  · have d1 : ¬ (200 : Int) < l.length := by omega
    obtain ⟨LA, lc, rfl, hlc, hlm, hat⟩ := mw_form hl
    unfold maxLen at hlm
    replace hat := hide hat
    have hrw := hide hl.2
    have hpl : (pms l).length ≤ 400 := by simp [pms]; omega
    obtain ⟨W1, hW1⟩ : ∃ W1, W1 = w.alloc oCol := ⟨_, rfl⟩
    have hX1 := hide (show Ext w W1 by rw [hW1]; exact (Ext.refl w).alloc _)
    have hN := hide (pnew_c colA (.slice (some ⟨w.heap.size, 0, none⟩) 1 1) W1 (by rw [hW1]; exact cols_cw w) mayColA (by decide))
    replace hW1 := hide hW1
    obtain ⟨B, hB⟩ : ∃ B, B = W1.heap.size := ⟨_, rfl⟩
    rw [← hB] at hN
    replace hB := hide hB
    clear hl
    go_enter Tryz.func4, Tryz.ntmps4
    go_wp2_with (first
      | (go_at_call 20; refine (cols_c _).mono ?_; rintro ee w1 ⟨rfl, rfl⟩; try rw [← hW1.out])
      | (go_at_call 7; refine hN.out.mono ?_; rintro ee w2 ⟨p, mb, rfl, hz2, hX2, hp, hmb⟩; replace hz2 := hide hz2; replace hX2 := hide hX2)
      | (go_at_call 8; refine (docNew_c B colA _ _ (cols_cw w2) mayColA (by rw [World.size_alloc, hB.out]; have := hX2.out.size; omega)).mono ?_; rintro ee w4 ⟨r, rfl, hS4, hX4⟩; have hz4 := hide ((hz2.out.ext ((Ext.refl w2).alloc _)).ext hX4); have hO4 := hide ((Ob.new w2 87 [.string ⟨#[97]⟩, .int .i64 1]).ext hX4); have hX14 := hide ((hX2.out.trans ((Ext.refl w2).alloc oCol)).trans hX4); replace hS4 := hide hS4; clear hX4))
    generalize hb0 : w2.heap.size = b0 at *
    clear hN hz2 hb0
    go_loopg [9] l.length (fun gh iv wr => ∃ (k : Nat), iv = .int .i64 k ∧ k + gh = l.length ∧ Hid (TQ colA (pms l) B p mb r (.slice (some ⟨b0, 0, none⟩) 1 1) k k wr) ∧ Hid (Ob wr b0 87 [.string ⟨#[97]⟩, .int .i64 1]) ∧ Hid (Ext W1 wr))
    case atStart => exact ⟨0, rfl, by omega, ⟨0, [], _, _, [], by omega, by simp, by simp, PInv.nil, hz4.out, by simp, hS4.out⟩, hO4, hX14⟩
    case round =>
      obtain ⟨k, rfl, hk, hTk, hOk, hXq⟩ := hrel
      clear hz4 hO4 hX14 hS4
      by_cases hkl : k < l.length
      · have hkI : (k : Int) < l.length := by omega
        obtain ⟨q, hq⟩ : ∃ q, l[k]? = some q := ⟨_, List.getElem?_eq_getElem hkl⟩
        obtain ⟨fb, fo, rfl, -, hbl, c0, c1, c2, c3', c4⟩ := hat.out k q hq
        have hpr := hrw.out q (List.mem_of_getElem? hq)
        have hqi := hi q (List.mem_of_getElem? hq)
        have hqm := pms_at hq
        obtain ⟨pv, ⟨pk, pi, pf, pt⟩, pr⟩ := q
        obtain ⟨QA, qc, eq⟩ := rw_val hpr
        simp only at eq hqm hqi
        subst eq
        have hbq : B ≤ wr.heap.size := by rw [hB.out]; exact hXq.out.size
        have hXw := hX1.out.trans hXq.out
        have hrv := hide (fun W' (hY : Ext w W') => (Sl.ext hpr hY : Rw W' [] (.slice QA pr.length qc) pr))
        have htp := hide (past_e hTk.out hpl pk pi pf pt pr (.slice QA pr.length qc) hqm hqi (hrv.out _ hXw) hbq hmb hp)
        have htd := hide (fun W' (h5 : TQ colA (pms l) B p mb r (.slice (some ⟨b0, 0, none⟩) 1 1) (k + 1) k W') (h6 : Cw W' [] (.slice (some ⟨b0, 0, none⟩) 1 1) colA) (h7 : Ext w W') (h8 : B ≤ W'.heap.size) => doc_e h5 hpl pk pi pf pt pr (.slice QA pr.length qc) hqm h6 (hrv.out _ h7) h8)
        generalize resP colA (runP colA (0, []) ((pms l).take k)) ((pk, pi, pf, pt), pr) = R at *
        have z0 := pcell_later hXw c0
        have z1 := pcell_later hXw c1
        have z2 := pcell_later hXw c2
        have z3 := pcell_later hXw c3'
        have z4 := pcell_later hXw c4
        have hfl : fb < w.heap.size := hbl
        haveI : In fb wr := ⟨Nat.lt_of_lt_of_le hbl hXw.size⟩
        clear hpr hqi hqm hq hTk
        have hXwh := hide hXw
        clear hXw
        go_wp2_with (first
          | (go_at_call 10; refine htp.out.mono ?_; rintro ee w5 ⟨C1, CA, cn, cc, o1, o2, n1, n2, rfl, hT5, hK5, hB5⟩; have hX5 := hide (show Ext W1 w5 from Below.trans hXq.out (by have h9 := hB5; rw [hB.out] at h9; exact h9)); have hO5 := hide (hK5.typ _ _ _ hOk.out (by decide) (by decide)); have y0 := pcell_later (hX1.out.trans hX5.out) c0; have y1 := pcell_later (hX1.out.trans hX5.out) c1; have y2 := pcell_later (hX1.out.trans hX5.out) c2; have y3 := pcell_later (hX1.out.trans hX5.out) c3'; have y4 := pcell_later (hX1.out.trans hX5.out) c4; haveI : In fb w5 := ⟨Nat.lt_of_lt_of_le hfl (hX1.out.trans hX5.out).size⟩; replace hT5 := hide hT5; clear hK5 hB5)
          | (go_at_call 11; refine (htd.out _ (hT5.out.ext ((Ext.refl w5).alloc _)) (cw_ob (hO5.out.alloc _)) ((hX1.out.trans hX5.out).trans ((Ext.refl w5).alloc _)) (by rw [World.size_alloc, hB.out]; have := hX5.out.size; omega)).mono ?_; rintro ee w6 ⟨D1, DA, dn, dc, q1, q2, q3, q4, rfl, hT6, hB6, hO6⟩; have hX6 := hide (show Ext W1 w6 from Below.trans (hX5.out.trans ((Ext.refl w5).alloc _)) (by have h9 := hB6; rw [hB.out] at h9; exact h9)); replace hO6 := hide (hO6 _ _ _ (hO5.out.alloc _) (by decide) (by decide) (by decide)); replace hT6 := hide hT6; clear hB6))
        go_roundg (l.length - (k + 1))
        case measure => omega
        case rel => exact ⟨k + 1, by go_num, by omega, hT6.out.ext ((Ext.refl w6).alloc _), hO6.out.alloc _, hX6.out.trans ((Ext.refl w6).alloc _)⟩
      · obtain rfl : k = l.length := by omega
        have hge : ¬ (l.length : Int) < l.length := by omega
        obtain ⟨n, L, ev, gv, D, -, hLk, hDk, hPI, hPz, -, hSd⟩ := hTk.out
        obtain ⟨T, hT⟩ := runP_inv colA ((pms l).take l.length)
        have hkn := hPI.kn id
        generalize runP colA (0, []) ((pms l).take l.length) = S at *
        have hrf := hide (fun W' (hY : Ext wr W') => refFind_c B r _ S ev gv D id W' (hSd.ext hY) (by omega))
        have hXw := hide (hX1.out.trans hXq.out)
        have hrb := hSd.ob.lt
        cases ho : atP L id with
        | none =>
          rw [ho] at hkn
          have hfi : fndI S.1 id 0 S.2 = -1 := by unfold fndI; rw [hkn]; rfl
          rw [hfi] at hrf
          have hpf := hide (pfind_no id hid wr hPz ho)
          haveI : In r wr := ⟨hrb⟩
          clear hTk hPz hSd hPI hT hkn hfi hat hi ho
          go_wp2_with (first
            | (go_at_call 21; (with_reducible refine seq_gw hpf.out ?_); intro g1)
            | (go_at_call 22; first | ((with_reducible refine seq_gw' (hrf.out _ (g1.grown.trans ((Ext.refl _).alloc _))) ?_); intro g2) | ((with_reducible refine seq_gw (hrf.out _ (g1.grown.trans ((Ext.refl _).alloc _))) ?_); intro g2))
            | (go_at_call 6; first | ((with_reducible refine seq_gw' (pastLive_c _) ?_); intro g3) | ((with_reducible refine seq_gw (pastLive_c _) ?_); intro g3)))
          go_returns
          exact ⟨by first | rfl | simp, hXw.out.trans ((g1.grown.trans ((Ext.refl _).alloc _)).trans (by first | exact g3.grown | exact g2.grown.trans g3.grown))⟩
        | some y =>
          rw [ho] at hkn
          obtain ⟨y1, y2, y3⟩ := hPI.known y (atP_some ho).1
          have hyid := (atP_some ho).2
          rw [hyid] at y3
          have hlen := (List.getElem?_eq_some_iff.1 y3).1
          have hfi : fndI S.1 id 0 S.2 = ((pSer y - 1 : Nat) : Int) := by unfold fndI; rw [hkn]; rfl
          rw [hfi] at hrf
          have h8 : y.1.2.1.length ≤ 8 := mayR8 (hT.evs _ (List.mem_of_getElem? y3)).2.2.2.1
          have hpf := hide (pfind_yes id hid wr hPz y ho h8)
          rw [← hSd.evs, List.getElem?_map] at y3
          cases hd : D[pSer y - 1]? with
          | none => rw [hd] at y3; cases y3
          | some d =>
            rw [hd] at y3
            have y3' : d.2 = ((id, y.1.2.1), y.1.2.2, false) := Option.some.inj y3
            obtain ⟨dv, de⟩ := d
            simp only at y3'
            subst y3'
            obtain ⟨g, cap, g2, cap2, PA, pc, e1, e2, hgl, hgl2, e3, q0, q1, q2, q3, q4⟩ := hSd.at hd
            cases e1; cases e2
            have hrd := hSd.own.2 _ (List.mem_of_getElem? hd)
            have hdl : pSer y - 1 < D.length := (List.getElem?_eq_some_iff.1 hd).1
            have c1 := hSd.ob.cell 2 rfl
            generalize pSer y - 1 = j at *
            have hjI : (j : Int) < D.length := by omega
            have hj0 : (0 : Int) ≤ j := by omega
            have hj1 : ¬ (j : Int) < 0 := by omega
            obtain ⟨⟨⟨yi, ys⟩, yr, ⟨yf, yt⟩⟩, yb, yv⟩ := y
            simp only at e3 q0 q1 q2 q3 hpf hrd
            subst e3
            haveI : In r wr := ⟨hrb⟩
            haveI : In g wr := ⟨hgl⟩
            replace hrd := hide hrd.rw
            clear hTk hPz hSd hPI hT hkn hfi hat hi ho hd y1 y2 y3 hyid hlen h8 q4
            go_wp2_with (first
              | (go_at_call 21; refine hpf.out.mono ?_; rintro ee w7 ⟨v7, rfl, hr7, hX7⟩; obtain ⟨XA, xc, ex⟩ := rwo_val hr7; subst ex; have c1' := pcell_later hX7 c1; have r0 := pcell_later hX7 q0; have r1 := pcell_later hX7 q1; have r2 := pcell_later hX7 q2; have r3 := pcell_later hX7 q3; haveI : In r w7 := ⟨Nat.lt_of_lt_of_le hrb hX7.size⟩; haveI : In g w7 := ⟨Nat.lt_of_lt_of_le hgl hX7.size⟩; replace hr7 := hide hr7.rw; replace hX7 := hide hX7)
              | (go_at_call 22; first | ((with_reducible refine seq_gw' (hrf.out _ (hX7.out.trans ((Ext.refl _).alloc _))) ?_); intro g2) | ((with_reducible refine seq_gw (hrf.out _ (hX7.out.trans ((Ext.refl _).alloc _))) ?_); intro g2))
              | (go_at_call 6; first | ((with_reducible refine seq_gw' (pastLive_c _) ?_); intro g3) | ((with_reducible refine seq_gw (pastLive_c _) ?_); intro g3))
              | (go_at_call 23; have hsm := refRowSame_c (Sl.ext hr7.out (((Ext.refl w7).alloc _).trans (g2.grown.trans (((Ext.refl _).alloc _).trans g3.grown)))) (Sl.ext hrd.out (hX7.out.trans (((Ext.refl w7).alloc _).trans (g2.grown.trans (((Ext.refl _).alloc _).trans g3.grown))))); rw [decide_eq_true rfl] at hsm; first | ((with_reducible refine seq_gw' hsm ?_); intro g4; clear hsm) | ((with_reducible refine seq_gw hsm ?_); intro g4; clear hsm)))
            go_returns
            exact ⟨by first | rfl | simp, hXw.out.trans (hX7.out.trans (((Ext.refl w7).alloc _).trans (g2.grown.trans (((Ext.refl _).alloc _).trans (by first | exact g4.grown | exact g3.grown.trans g4.grown)))))⟩
  · have d1 : (200 : Int) < l.length := by omega
    obtain ⟨LA, lc, rfl, -⟩ := mw_form hl
    clear hl hi
    go_enter Tryz.func4, Tryz.ntmps4
    go_wp2_with (go_at_call 6; (with_reducible refine seq_gw (pastLive_c _) ?_); intro g0)
    go_returns
    exact ⟨by first | rfl | simp, g0.grown⟩
end Fnd
end Go.Proofs.YtajelkkiijdegaaGreat
namespace Go.Proofs.YtajelkkiijdegaaGreat.Facts.pastFinds
open Go.ChangeShapes Go.WideShapes Go.ChangeAt Go.RowKit
theorem c1 : (Rows.pastFindsRow.inPlace == Tryz.prog.inPlace 4) = true := by kernel_rfl
theorem c2 : (Rows.pastFindsRow.unfollowed == Tryz.prog.unfollowed 4) = true := by kernel_rfl
theorem c3 : (Rows.pastFindsRow.recurses == Tryz.prog.recurses 4) = true := by kernel_rfl
theorem c4 : (Rows.pastFindsRow.named == Tryz.prog.varsNamed 4) = true := by kernel_rfl
theorem c5 : laidOutB Tryz.prog = true := by kernel_rfl
theorem c6 : mapsRowed Tryz.prog = true := by kernel_rfl
theorem closed : joinedFacts Tryz.prog 4 Tryz.f4 Rows.pastFindsSpec Rows.pastFindsRow = true := by
  unfold joinedFacts
  rw [c1, c2, c3, c4, c5, c6]
  kernel_rfl
end Go.Proofs.YtajelkkiijdegaaGreat.Facts.pastFinds
