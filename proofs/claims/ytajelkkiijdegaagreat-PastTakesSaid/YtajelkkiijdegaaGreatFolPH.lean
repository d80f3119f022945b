/-
  A helper of ours: no claim of its own. Layer 13 (fold): all messages, one after another, by the code; what is reported is told to Changes.
-/
import Derived.Test.YtajelkkiijdegaaGreatBagC
set_option linter.unusedVariables false
set_option linter.unusedSimpArgs false
namespace Go.Proofs.YtajelkkiijdegaaGreat
open Go.RowKit
attribute [local go_sem] GW.cell GW.frozen In.eq_true In.le_true In.ne In.ne' In.ne_add In.ne_add' In.lt_add Upto.le_true Upto.le_add Upto.lt_add
end Go.Proofs.YtajelkkiijdegaaGreat
set_option linter.unusedVariables false
set_option linter.unusedSimpArgs false
namespace Go.Proofs.YtajelkkiijdegaaGreat
open Go.RowKit
attribute [local go_sem] GW.cell GW.frozen In.eq_true In.le_true In.ne In.ne' In.ne_add In.ne_add' In.lt_add Upto.le_true Upto.le_add Upto.lt_add
set_option maxHeartbeats 8000000 in
set_option maxRecDepth 100000 in
theorem processH_c (wA : World) (L : List Vm) (v : Value) (B : Nat) (I : Nat → World → Prop) (hL : Mw wA [] v L) (hin : ∀ p ∈ L, inM p.2) (hlen : L.length ≤ 100000) (w : World) (hX : Ext wA w) (h0 : I 0 w)
    (hI : ∀ k w w', I k w → Ext w w' → I k w') (hI2 : ∀ k s mb w w', I k w → StOk w s mb → Fr [s, mb] w w' → I k w')
    (hcall : ∀ k p u w s mb, L[k]? = some p → Rw wA [] u (chg (runS (0, []) ((pms L).take k)) p.2).2.1 → I k w → Ext wA w → StOk w s mb → Calls Tryz.prog 92 #[mg p.2.1.1 p.2.1.2.1 p.2.1.2.2.1 p.2.1.2.2.2 p.1, chV u (chg (runS (0, []) ((pms L).take k)) p.2), .int .i64 (chkD (runS (0, []) ((pms L).take k)) p.2), .pointer (some ⟨B, 0, none⟩)] w fun e w' => e = .returned (.tuple #[]) ∧ I (k + 1) w' ∧ Ext wA w' ∧ w'.heap[s]? = w.heap[s]? ∧ w'.heap[mb]? = w.heap[mb]?) :
    Calls Tryz.prog 91 #[v, .func (.func 92) #[] #[.pointer (some ⟨B, 0, none⟩)]] w fun e w' => e = .returned (.tuple #[]) ∧ I L.length w' ∧ Ext wA w' := by
  have hrw := hide hL.2
  obtain ⟨LA, lc, rfl, hlc, hlm, hat⟩ := mw_form hL
  unfold maxLen at hlm
  replace hat := hide hat
  replace hI := hide hI
  replace hI2 := hide hI2
  replace hcall := hide hcall
  have hin' := hide hin
  have h0' := hide h0
  have hX' := hide hX
  clear hL h0 hX hin
  have hmk : ∀ w, (Instr.makeMap 210 none).run Tryz.prog w = .ok (.map (some w.heap.size)) (w.alloc (.map #[] 0)) := fun _ => by kernel_rfl
  go_enter Tryz.func91, Tryz.ntmps91
  go_wp2_with fail
  obtain ⟨mb, hmb⟩ : ∃ mb, mb = w.heap.size := ⟨_, rfl⟩
  obtain ⟨s, hs⟩ : ∃ s, s = w.heap.size + 1 := ⟨_, rfl⟩
  have hms : s ≠ mb := by omega
  have hF0 : Fs ((w.alloc (.map #[] 0)).alloc (.cells #[.int .i64 0, .int .i64 0, .map (some w.heap.size)] 212)) s mb 0 0 0 [] := by
    subst hs
    have hO := Ob.new (w.alloc (.map #[] 0)) 212 [.int .i64 0, .int .i64 0, .map (some w.heap.size)]
    rw [World.size_alloc] at hO
    subst hmb
    exact ⟨hO, (Mv.made kent w Tryz.prog 3).alloc _⟩
  have hF0' := hide hF0
  have hI0 := hide (hI.out 0 _ _ h0'.out (((Ext.refl w).alloc (.map #[] 0)).alloc (.cells #[.int .i64 0, .int .i64 0, .map (some w.heap.size)] 212)))
  have hX0 := hide ((hX'.out.alloc (.map #[] 0)).alloc (.cells #[.int .i64 0, .int .i64 0, .map (some w.heap.size)] 212))
  have hsA : wA.heap.size ≤ mb ∧ wA.heap.size ≤ s := by have := hX'.out.size; omega
  rw [← hs]
  try rw [← hmb]
  rw [← hmb] at hF0' hI0 hX0
  replace hs := hide hs
  replace hmb := hide hmb
  clear hF0 hmk h0' hX'
  go_loopg [14] L.length (fun gh iv wr => ∃ (k n : Nat) (T : List Ke), iv = .int .i64 k ∧ k + gh = L.length ∧ n = k ∧ Hid (InvF T (runS (0, []) ((pms L).take k))) ∧ Hid (Fs wr s mb n (runS (0, []) ((pms L).take k)).1 (runS (0, []) ((pms L).take k)).2.length T) ∧ Hid (rowsK wA T) ∧ Hid (I k wr) ∧ Hid (Ext wA wr))
  case atStart => exact ⟨0, 0, [], rfl, by omega, rfl, (by show InvF [] (runS (0, []) []); exact InvF.nil), hF0', (by show rowsK wA []; intro p hp; cases hp), hI0, hX0⟩
  case round =>
    clear hF0' hI0 hX0
    obtain ⟨k, n, T, rfl, hk, hnk, hInv, hF, hT, hIk, hX⟩ := hrel
    by_cases hkl : k < L.length
    · have hkI : (k : Int) < L.length := by omega
      have dk : decide ((k : Int) < L.length) = true := decide_eq_true hkI
      obtain ⟨p, hp⟩ : ∃ p, L[k]? = some p := ⟨_, List.getElem?_eq_getElem hkl⟩
      obtain ⟨b, o, rfl, -, hbl, c0, c1, c2, c3, c4⟩ := hat.out k p hp
      have hpm : (pms L)[k]? = some p.2 := by unfold pms; rw [List.getElem?_map, hp]; rfl
      have hpin := hin'.out p (List.mem_of_getElem? hp)
      have hpr := hide (hrw.out p (List.mem_of_getElem? hp))
      have hcl := hide (fun u w s mb => hcall.out k p u w s mb hp)
      have hnx := hide (runS_take hpm (0, []))
      have hSl := hide (runS_len ((pms L).take k) (0, []))
      have k0 := cell_later hX.out c0
      have k1 := cell_later hX.out c1
      have k2 := cell_later hX.out c2
      have k3 := cell_later hX.out c3
      have k4 := cell_later hX.out c4
      have hbr : b < wr.heap.size := block_lt_of_cell k0
      haveI : In b wr := ⟨hbr⟩
      obtain ⟨pv, ⟨pk, pi, pf, pt⟩, pl⟩ := p
      obtain ⟨PA, pc, epv⟩ := rw_val hpr.out
      simp only at epv k0 k1 k2 k3 k4 hpin
      subst epv
      obtain ⟨S, hS⟩ : ∃ S, S = runS (0, []) ((pms L).take k) := ⟨_, rfl⟩
      rw [← hS] at hcl hnx hInv hF hSl
      have hiI : inI pi := hpin.1.2.1
      have hS5 : S.2.length ≤ 100000 := by
        have := hSl.out
        simp only [List.length_nil, List.length_take, pms, List.length_map] at this
        omega
      clear c0 c1 c2 c3 c4 hat hp hpm hcall hin' hrw hpin
      replace hS := hide hS
      have hch := hide (hInv.out.chk ((pk, pi, pf, pt), pl))
      simp only at hcl
      have hFr := hide hF
      by_cases hz : chkD S ((pk, pi, pf, pt), pl) = 0
      · obtain ⟨CH, hCH⟩ : ∃ c, c = (tk S ((pk, pi, pf, pt), pl)).2 := ⟨_, rfl⟩
        have hcl2 := hcl
        have hchg : chg S ((pk, pi, pf, pt), pl) = CH := by unfold chg; rw [if_pos hz, hCH]
        rw [hchg, hz] at hcl2
        have hstep := hInv.out.step ((pk, pi, pf, pt), pl) (.slice PA pl.length pc)
        have hstp : stp S ((pk, pi, pf, pt), pl) = (tk S ((pk, pi, pf, pt), pl)).1 := by unfold stp; rw [if_pos hz]
        rw [if_pos hz] at hstep
        have hacc := fun w' (hx : Ext wA w') hf => accept_c s mb n S T ((pk, pi, pf, pt), pl) (.slice PA pl.length pc) hInv.out hz hiI (by omega) (by omega) wA w' hx hT.out hpr.out hf hms
        rw [← hCH] at hacc
        rw [hstp] at hstep hnx
        obtain ⟨S', hS'⟩ : ∃ S', S' = (tk S ((pk, pi, pf, pt), pl)).1 := ⟨_, rfl⟩
        rw [← hS'] at hacc hstep hnx
        obtain ⟨T', hT'⟩ : ∃ T', T' = accK (freeK T S.1 pi) S.2.length (.slice PA pl.length pc) ((pk, pi, pf, pt), pl) := ⟨_, rfl⟩
        simp only at hacc hstep
        rw [← hT'] at hacc hstep
        obtain ⟨cs, cr, ⟨o1, o2⟩, n1, n2⟩ := CH
        replace hacc := hide hacc
        replace hcl2 := hide hcl2
        replace hstep := hide hstep
        replace hCH := hide hCH
        replace hS' := hide hS'
        replace hT' := hide hT'
        replace hz := hide hz
        clear hcl hchg hstp
        go_wp2_with (first | (go_at_call 149; (refine (free_c s mb n S.1 S.2.length pi T hiI _ (hF.out.ext ((Ext.refl wr).alloc _)) (fun q hq => Sl.ext (hT.out q hq) (hX.out.alloc _)) hms).mono ?_; rintro ee w2 ⟨rfl, hF2, hfr2⟩; have hml := hF.out.2.lt; have hsl := hF.out.1.lt; have hOm := hide ((Ob.new wr 44 [.int .i64 pk, .int .i64 pi, .int .i64 pf, .int .i64 pt, .slice PA pl.length pc]).fr hfr2 (by simp only [List.mem_cons, List.not_mem_nil, or_false]; omega)); have m0 := hOm.out.cell 0 rfl; have m1 := hOm.out.cell 1 rfl; have m2 := hOm.out.cell 2 rfl; have m3 := hOm.out.cell 3 rfl; have m4 := hOm.out.cell 4 rfl; have ml := hOm.out.lt; haveI : In wr.heap.size w2 := ⟨ml⟩; have hX2 := hide (ext_fr (hX.out.alloc (mO pk pi pf pt (.slice PA pl.length pc))) hfr2 (by intro y hy; simp only [List.mem_singleton] at hy; omega)); have hI2' := hide (hI2.out k s mb _ _ hIk.out hF.out.ok (((Fr.refl [s, mb] wr).alloc (mO pk pi pf pt (.slice PA pl.length pc))).trans (hfr2.more (by simp +contextual)))); replace hF2 := hide hF2; clear hfr2)) | (go_at_call 150; (have hrs := result_c s mb n S.1 S.2.length (freeK T S.1 pi) pk pi pf pt pl (.slice PA pl.length pc) hiI w2 hF2.out (fun q hq => Sl.ext (rows_free hT.out S.1 pi q hq) hX2.out) (Sl.ext hpr.out hX2.out); rw [show chkO S.1 (knK (atK (freeK T S.1 pi) pi)) ((pk, pi, pf, pt), pl) = _ from hch.out.symm] at hrs; rw [hz.out] at hrs; (refine hrs.mono ?_); clear hrs; rintro ee w3 ⟨rfl, hx3⟩; have hz3 := hx3.size; have hX3 := hide (hX2.out.trans hx3); have hF3 := hide (hF2.out.ext hx3); have hI3 := hide (hI.out k _ _ hI2'.out hx3); have hOm3 := hide (hOm.out.ext hx3); have n0 := hOm3.out.cell 0 rfl; have n1' := hOm3.out.cell 1 rfl; have n2' := hOm3.out.cell 2 rfl; have n3 := hOm3.out.cell 3 rfl; have n4 := hOm3.out.cell 4 rfl; have nl := hOm3.out.lt; haveI : In wr.heap.size w3 := ⟨nl⟩; clear hx3)) | (go_at_call 151; (refine (hacc.out _ (hX3.out.alloc _) (hF3.out.ext ((Ext.refl w3).alloc _))).mono ?_; rintro ee w4 ⟨u, rfl, hu, hF4, hT4, hfr4⟩; replace hu := hide hu; obtain ⟨UA, uc, eu⟩ := rw_val hu.out; (try simp only at eu); subst eu; have hOc := hide ((Ob.new w3 39 zCl).fr hfr4 (by simp only [List.mem_cons, List.not_mem_nil, or_false]; omega)); have y0 := hOc.out.cell 0 rfl; have y1 := hOc.out.cell 1 rfl; have y2 := hOc.out.cell 2 rfl; have y3 := hOc.out.cell 3 rfl; have y4 := hOc.out.cell 4 rfl; have y5 := hOc.out.cell 5 rfl; have e0 := hOc.out.free 0; have e1 := hOc.out.free 1; have e2 := hOc.out.free 2; have e3 := hOc.out.free 3; have e4 := hOc.out.free 4; have e5 := hOc.out.free 5; have yl := hOc.out.lt; haveI : In w3.heap.size w4 := ⟨yl⟩; have hOm4 := hide ((hOm3.out.alloc (.cells zCl.toArray 39)).fr hfr4 (by simp only [List.mem_cons, List.not_mem_nil, or_false]; omega)); have u0 := hOm4.out.cell 0 rfl; have u1 := hOm4.out.cell 1 rfl; have u2 := hOm4.out.cell 2 rfl; have u3 := hOm4.out.cell 3 rfl; have u4 := hOm4.out.cell 4 rfl; have ul := hOm4.out.lt; haveI : In wr.heap.size w4 := ⟨ul⟩; have hne : wr.heap.size ≠ w3.heap.size := (by omega); have hF4' := hide hF4; replace hT4 := hide hT4; replace hfr4 := hide hfr4; clear hF4)) | (go_at_call 92; (obtain ⟨w5, hw5⟩ : ∃ w5, w5 = (((((w4.setCell ⟨w3.heap.size, 0, none⟩ (.int .i64 cs)).setCell ⟨w3.heap.size, 1, none⟩ (.slice UA cr.length uc)).setCell ⟨w3.heap.size, 2, none⟩ (.int .i64 o1)).setCell ⟨w3.heap.size, 3, none⟩ (.int .i64 o2)).setCell ⟨w3.heap.size, 4, none⟩ (.int .i64 n1)).setCell ⟨w3.heap.size, 5, none⟩ (.int .i64 n2) := ⟨_, rfl⟩; have hFc : Fr [w3.heap.size] w4 w5 := (by rw [hw5]; repeat (first | exact Fr.refl _ _ | refine Fr.setCell ?_ _ _ (.inl (by simp)))); have hF35 : Fr [s, mb] w3 w5 := (((Fr.refl [s, mb] w3).alloc (.cells zCl.toArray 39)).trans hfr4.out).then hFc (by simp); have hF5 := hide (hF4'.out.same (hFc.block s hF4'.out.1.lt (by simp only [List.mem_cons, List.not_mem_nil, or_false]; omega)) (hFc.block mb hF4'.out.2.lt (by simp only [List.mem_cons, List.not_mem_nil, or_false]; omega))); have hX5 := hide (ext_fr hX3.out hF35 (by simp only [List.mem_cons, List.not_mem_nil, or_false]; omega)); have hI5 := hide (hI2.out k s mb _ _ hI3.out hF3.out.ok hF35); rw [← hw5]; clear hw5 hFc hF35; (refine (hcl2.out _ w5 s mb hu.out hI5.out hX5.out hF5.out.ok).mono ?_); rintro ee w6 ⟨rfl, hI6, hX6, hs6, hm6⟩; replace hI6 := hide hI6; replace hX6 := hide hX6; have hF6 := hide (hF5.out.same hs6 hm6); clear hs6 hm6)))
        go_roundg (L.length - (k + 1))
        case measure => omega
        case rel => exact ⟨k + 1, n + 1, T', by go_num, by omega, by omega, (by show InvF _ _; rw [hnx.out]; exact hstep.out), (by show Fs _ _ _ _ _ _ _; rw [hnx.out]; exact hF6.out), hT4, hI6, hX6⟩
      · have hcl2 := hcl
        have hchg : chg S ((pk, pi, pf, pt), pl) = zCh := by unfold chg; rw [if_neg hz]
        have hstp : stp S ((pk, pi, pf, pt), pl) = S := by unfold stp; rw [if_neg hz]
        have hstep := hInv.out.step ((pk, pi, pf, pt), pl) (.slice PA pl.length pc)
        rw [if_neg hz, hstp] at hstep
        rw [hstp] at hnx
        rw [hchg] at hcl2
        obtain ⟨E, hE⟩ : ∃ E, E = chkD S ((pk, pi, pf, pt), pl) := ⟨_, rfl⟩
        rw [← hE] at hcl2 hz hch
        have hz2 : (E == 0) = false := by simp [hz]
        replace hcl2 := hide hcl2
        replace hstep := hide hstep
        replace hz := hide hz
        replace hE := hide hE
        clear hcl hchg hstp
        go_wp2_with (first | (go_at_call 149; (refine (free_c s mb n S.1 S.2.length pi T hiI _ (hF.out.ext ((Ext.refl wr).alloc _)) (fun q hq => Sl.ext (hT.out q hq) (hX.out.alloc _)) hms).mono ?_; rintro ee w2 ⟨rfl, hF2, hfr2⟩; have hml := hF.out.2.lt; have hsl := hF.out.1.lt; have hOm := hide ((Ob.new wr 44 [.int .i64 pk, .int .i64 pi, .int .i64 pf, .int .i64 pt, .slice PA pl.length pc]).fr hfr2 (by simp only [List.mem_cons, List.not_mem_nil, or_false]; omega)); have m0 := hOm.out.cell 0 rfl; have m1 := hOm.out.cell 1 rfl; have m2 := hOm.out.cell 2 rfl; have m3 := hOm.out.cell 3 rfl; have m4 := hOm.out.cell 4 rfl; have ml := hOm.out.lt; haveI : In wr.heap.size w2 := ⟨ml⟩; have hX2 := hide (ext_fr (hX.out.alloc (mO pk pi pf pt (.slice PA pl.length pc))) hfr2 (by intro y hy; simp only [List.mem_singleton] at hy; omega)); have hI2' := hide (hI2.out k s mb _ _ hIk.out hF.out.ok (((Fr.refl [s, mb] wr).alloc (mO pk pi pf pt (.slice PA pl.length pc))).trans (hfr2.more (by simp +contextual)))); replace hF2 := hide hF2; clear hfr2)) | (go_at_call 150; (have hrs := result_c s mb n S.1 S.2.length (freeK T S.1 pi) pk pi pf pt pl (.slice PA pl.length pc) hiI w2 hF2.out (fun q hq => Sl.ext (rows_free hT.out S.1 pi q hq) hX2.out) (Sl.ext hpr.out hX2.out); rw [show chkO S.1 (knK (atK (freeK T S.1 pi) pi)) ((pk, pi, pf, pt), pl) = _ from hch.out.symm] at hrs; (refine hrs.mono ?_); clear hrs; rintro ee w3 ⟨rfl, hx3⟩; have hz3 := hx3.size; have hX3 := hide (hX2.out.trans hx3); have hF3 := hide (hF2.out.ext hx3); have hI3 := hide (hI.out k _ _ hI2'.out hx3); have hOm3 := hide (hOm.out.ext hx3); have n0 := hOm3.out.cell 0 rfl; have n1' := hOm3.out.cell 1 rfl; have n2' := hOm3.out.cell 2 rfl; have n3 := hOm3.out.cell 3 rfl; have n4 := hOm3.out.cell 4 rfl; have nl := hOm3.out.lt; haveI : In wr.heap.size w3 := ⟨nl⟩; clear hx3)) | (go_at_call 92; (have hF5 := hide (hF3.out.ext ((Ext.refl w3).alloc (.cells zCl.toArray 39))); have hX5 := hide (hX3.out.alloc (.cells zCl.toArray 39)); have hI5 := hide (hI.out k _ _ hI3.out ((Ext.refl w3).alloc (.cells zCl.toArray 39))); (refine (hcl2.out (.slice none 0 0) _ s mb (Sl.nil _ _ _) hI5.out hX5.out hF5.out.ok).mono ?_); rintro ee w6 ⟨rfl, hI6, hX6, hs6, hm6⟩; replace hI6 := hide hI6; replace hX6 := hide hX6; have hF6 := hide ((hF5.out.same hs6 hm6).more (Nat.le_succ n)); clear hs6 hm6)))
        go_roundg (L.length - (k + 1))
        case measure => omega
        case rel => exact ⟨k + 1, n + 1, freeK T S.1 pi, by go_num, by omega, by omega, (by show InvF _ _; rw [hnx.out]; exact hstep.out), (by show Fs _ _ _ _ _ _ _; rw [hnx.out]; exact hF6.out), hide (rows_free hT.out S.1 pi), hI6, hX6⟩
    · have hke : k = L.length := by omega
      subst hke
      have hge : ¬ ((L.length : Int) < L.length) := by omega
      have dk : decide ((L.length : Int) < L.length) = false := decide_eq_false hge
      clear hat hrw hin' hcall hI hI2
      go_wp2_with fail
      go_end0
      exact ⟨rfl, hIk.out, hX.out⟩
end Go.Proofs.YtajelkkiijdegaaGreat
