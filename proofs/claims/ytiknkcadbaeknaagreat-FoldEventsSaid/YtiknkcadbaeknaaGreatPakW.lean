/-
  A helper of ours: no claim of its own. Layer 11 (pack): what must be whatever is asked.
-/
import Derived.Test.YtiknkcadbaeknaaGreatFolTr
import Derived.Test.YtiknkcadbaeknaaGreatFolXE
import Derived.Test.YtiknkcadbaeknaaGreatFolT
import Derived.Test.YtiknkcadbaeknaaGreatFolS
import Derived.Test.YtiknkcadbaeknaaGreatEdgGs
import Derived.Test.YtiknkcadbaeknaaGreatFolC
import Derived.Test.YtiknkcadbaeknaaGreatFolG
set_option linter.unusedVariables false
set_option linter.unusedSimpArgs false
namespace Go.Proofs.YtiknkcadbaeknaaGreat
open Go.RowKit
attribute [local go_sem] GW.cell GW.frozen In.eq_true In.le_true In.ne In.ne' In.ne_add In.ne_add' In.lt_add Upto.le_true Upto.le_add Upto.lt_add
theorem rwo_nil (w : World) : RwO w (.slice none 0 0) [] := World.ownsRow_nil _ _ _ _
theorem docTake_c (base r : Nat) (S : StD) (ev gv : Value) (L : List Lv) (m : PM) (v : Value) (w : World) (h : Sd w base r S ev gv L) (hn : L.length ≤ 100000) (hv : Rw w [] v m.2) (hbs : base ≤ w.heap.size) :
    Calls Tryz.prog 50 #[.pointer (some ⟨r, 0, none⟩), mg m.1.1 m.1.2.1 m.1.2.2.1 m.1.2.2.2 v] w fun e w' => ∃ vc ev' gv' L', e = .returned (.tuple #[chV vc (chg S m), .int .i64 (chkD S m)]) ∧ RwO w' vc (chg S m).2.1 ∧ Sd w' base r (stp S m) ev' gv' L' ∧ L'.length ≤ L.length + 1 ∧ Fr (r :: (ob ev ++ ob gv)) w w' := by
  obtain ⟨⟨k, i, f, t⟩, l⟩ := m
  simp only at hv ⊢
  by_cases h0 : chkD S ((k, i, f, t), l) = 0
  · have hm := (chkO_zero h0).1
    have hS : stp S ((k, i, f, t), l) = (tk S ((k, i, f, t), l)).1 := if_pos h0
    have hC : chg S ((k, i, f, t), l) = (tk S ((k, i, f, t), l)).2 := if_pos h0
    rw [hS, hC, h0]
    rcases mchk_kind hm with rfl | rfl | rfl
    · have ht : tk S ((1, i, f, t), l) = ((S.1, S.2 ++ [((i, l), (f, t), false)]), (S.2.length + 1, l, (0, 0), (f, t))) := by unfold tk; rw [if_neg (show ¬ (1 : Int) = 3 by decide), if_pos rfl]
      rw [ht]
      exact (docTake1_c base r S ev gv L i f t l v w h hn hv h0 hbs).mono fun e w' ⟨vc, ev', gv', L', he, h1, h2, h3⟩ => ⟨vc, ev', gv', L', he, h1, h2, by
        have e1 := congrArg List.length h2.evs
        have e2 := congrArg List.length h.evs
        simp only [List.length_map, List.length_append, List.length_singleton] at e1 e2
        omega, h3⟩
    · obtain ⟨e, ho, h1, h2, h3⟩ := (chkO_zero h0).2.1 rfl
      cases hk : kn S.1 i 0 S.2 with
      | none => simp only [hk] at ho; cases ho
      | some x =>
        obtain ⟨j, e⟩ := x
        have ht : tk S ((2, i, f, t), l) = ((S.1, S.2.set j (if t = e.2.1.1 then (e.1, e.2.1, true) else (e.1, (e.2.1.1, t), false))), (j + 1, e.1.2, e.2.1, cut e.2.1 t)) := by unfold tk; rw [if_neg (show ¬ (2 : Int) = 3 by decide), if_neg (show ¬ (2 : Int) = 1 by decide)]; simp only [hk]
        rw [ht]
        exact (docTake2_c base r S ev gv L i f t l v w h hn hv h0 hbs j e hk).mono fun ee w' ⟨vc, he, h1, L', h2, h3, h4⟩ => ⟨vc, ev, gv, L', he, h1, h2, by omega, h4⟩
    · have ht : tk S ((3, i, f, t), l) = ((f, S.2), zCh) := by unfold tk; rw [if_pos rfl]
      rw [ht]
      exact (docTake3_c base r S ev gv L i f t l v w h (by omega) hv h0).mono fun e w' ⟨he, h1, h2⟩ => ⟨.slice none 0 0, ev, gv, L, he, rwo_nil w', h1, by omega, h2.more (fun k _ hk => by simp only [List.mem_singleton] at hk; simp [hk])⟩
  · have hS : stp S ((k, i, f, t), l) = S := if_neg h0
    have hC : chg S ((k, i, f, t), l) = zCh := if_neg h0
    rw [hS, hC]
    exact (docTake0_c base r S ev gv L k i f t l v w h (by omega) hv h0).mono fun e w' ⟨he, h1⟩ => ⟨.slice none 0 0, ev, gv, L, he, rwo_nil w', h.ext h1, by omega, Fr.of_ext h1⟩
end Go.Proofs.YtiknkcadbaeknaaGreat
set_option linter.unusedVariables false
set_option linter.unusedSimpArgs false
namespace Go.Proofs.YtiknkcadbaeknaaGreat
open Go.RowKit
attribute [local go_sem] GW.cell GW.frozen In.eq_true In.le_true In.ne In.ne' In.ne_add In.ne_add' In.lt_add Upto.le_true Upto.le_add Upto.lt_add
/-- What is known behind All. -/
def AllPost (ms : List PM) (vo vch : Value) (w w' : World) : Prop := ∃ ev gv EL CL, w'.ownsRow w.heap.size 35 1 vo (runE (0, []) ms).length (ns (runE (0, []) ms)) ∧ OwnCh w' w.heap.size vch CL ∧ CL.map Prod.snd = runC (0, []) ms ∧ Sd w' w.heap.size w.heap.size (runS (0, []) ms) ev gv EL ∧ EL.length ≤ ms.length ∧ Ext w w'
set_option maxHeartbeats 8000000 in
set_option maxRecDepth 100000 in
theorem refAll_c (L : List Vm) (v : Value) (w : World) (hL : Mw w [] v L) (hlen : L.length ≤ 4096) : Calls Tryz.prog 11 #[v] w fun e w' => ∃ vo vch, e = .returned (.tuple #[vo, vch, .pointer (some ⟨w.heap.size, 0, none⟩)]) ∧ AllPost (pms L) vo vch w w' := by
  have hrw := hide hL.2
  obtain ⟨LA, lc, rfl, hlc, hlm, hat⟩ := mw_form hL
  unfold maxLen at hlm
  replace hat := hide hat
  clear hL
  have hX0 := hide ((((Ext.refl w).alloc (.cells #[.int .i64 0, .slice none 0 0, .slice none 0 0] 34)).alloc (.cells #[] 35)).alloc (.cells #[] 44))
  have hS0 := hide (show Sd (((w.alloc (.cells #[.int .i64 0, .slice none 0 0, .slice none 0 0] 34)).alloc (.cells #[] 35)).alloc (.cells #[] 44)) w.heap.size w.heap.size (0, []) (.slice none 0 0) (.slice none 0 0) [] from
    ⟨((Ob.new w 34 [.int .i64 0, .slice none 0 0, .slice none 0 0]).alloc _).alloc _, OwnX.nil _ _, World.ownsRow_nil _ _ _ _, rfl, Nat.le_refl _⟩)
  have hE0 := hide (World.ownsRow_lit (base := w.heap.size) (e := 35) (size := 1) (w.alloc (.cells #[.int .i64 0, .slice none 0 0, .slice none 0 0] 34)) #[] 0 (by simp) (by decide) rfl)
  have hC0 := hide (World.ownsRow_lit (base := w.heap.size) (e := 44) (size := 6) ((w.alloc (.cells #[.int .i64 0, .slice none 0 0, .slice none 0 0] 34)).alloc (.cells #[] 35)) #[] 0 (by simp; omega) (by decide) rfl)
  rw [World.size_alloc] at hE0
  rw [World.size_alloc, World.size_alloc] at hC0
  have hE1 := hide (own_ext hE0.out ((Ext.refl _).alloc (.cells #[] 44)))
  clear hE0
  go_enter Tryz.func11, Tryz.ntmps11
  go_wp2_with fail
  obtain ⟨r, hr⟩ : ∃ r, r = w.heap.size := ⟨_, rfl⟩
  go_loopg [6, 7, 8, 9, 10] L.length (fun gh ov cv iv x9 x10 wr => ∃ (k : Nat) (ev gv : Value) (EL : List Lv) (CL : List (Value × Ch)), iv = .int .i64 k ∧ k + gh = L.length ∧ Hid (Sd wr w.heap.size w.heap.size (runS (0, []) ((pms L).take k)) ev gv EL) ∧ EL.length ≤ k ∧ Hid (wr.ownsRow w.heap.size 35 1 ov (runE (0, []) ((pms L).take k)).length (ns (runE (0, []) ((pms L).take k)))) ∧ Hid (OwnCh wr w.heap.size cv CL) ∧ Hid (CL.map Prod.snd = runC (0, []) ((pms L).take k)) ∧ Hid (Ext w wr))
  case atStart => exact ⟨0, _, _, [], [], rfl, by omega, hS0, Nat.le_refl _, hE1, ⟨hC0.out, by simp⟩, (rfl : ([] : List (Value × Ch)).map Prod.snd = runC (0, []) []), hX0⟩
  case round =>
    clear hS0 hE1 hC0 hX0
    obtain ⟨k, ev, gv, EL, CL, rfl, hk, hSd, hel, hO, hCL, hCm, hX⟩ := hrel
    have hEl := hide (runE_len ((pms L).take k) (0, []))
    have hCl2 := hide (runC_len ((pms L).take k) (0, []))
    have hbs : w.heap.size ≤ wr.heap.size := hX.out.size
    obtain ⟨OA, oc, rfl⟩ := own_form hO.out
    obtain ⟨CA, cc, rfl⟩ := hCL.out.form
    by_cases hkl : k < L.length
    · have hkI : (k : Int) < L.length := by omega
      have dk : decide ((k : Int) < L.length) = true := decide_eq_true hkI
      obtain ⟨p, hp⟩ : ∃ p, L[k]? = some p := ⟨_, List.getElem?_eq_getElem hkl⟩
      obtain ⟨b, o, rfl, -, hbl, c0, c1, c2, c3, c4⟩ := hat.out k p hp
      have hpm : (pms L)[k]? = some p.2 := by unfold pms; rw [List.getElem?_map, hp]; rfl
      have hpr := hrw.out p (List.mem_of_getElem? hp)
      have hTk := docTake_c w.heap.size w.heap.size _ ev gv EL p.2 p.1 wr hSd.out (by omega) (Sl.ext hpr hX.out) hbs
      have nS := hide (runS_take hpm (0, []))
      have nE := hide (runE_take hpm (0, []))
      have nC := hide (runC_take hpm (0, []))
      obtain ⟨S, hS⟩ : ∃ S, S = runS (0, []) ((pms L).take k) := ⟨_, rfl⟩
      rw [← hS] at hTk nS nE nC hSd
      replace hS := hide hS
      obtain ⟨RE, hRE⟩ : ∃ RE, RE = runE (0, []) ((pms L).take k) := ⟨_, rfl⟩
      rw [← hRE] at nE hO hEl
      rw [← hRE]
      replace hRE := hide hRE
      have hReL : RE.length ≤ 4096 := by have := hEl.out; rw [List.length_take] at this; omega
      have hClL : CL.length ≤ 4096 := by have h1 := congrArg List.length hCm.out; rw [List.length_map] at h1; have := hCl2.out; rw [List.length_take] at this; omega
      have k0 := cell_later hX.out c0
      have k1 := cell_later hX.out c1
      have k2 := cell_later hX.out c2
      have k3 := cell_later hX.out c3
      have k4 := cell_later hX.out c4
      have hbr : b < wr.heap.size := block_lt_of_cell k0
      haveI : In b wr := ⟨hbr⟩
      obtain ⟨pv, ⟨pk, pi, pf, pt⟩, pl⟩ := p
      obtain ⟨PA, pc, epv⟩ := rw_val hpr
      simp only at epv k0 k1 k2 k3 k4 hTk nS nE nC c0
      subst epv
      obtain ⟨CH, hCH⟩ : ∃ c, c = chg S ((pk, pi, pf, pt), pl) := ⟨_, rfl⟩
      obtain ⟨E, hE⟩ : ∃ E, E = chkD S ((pk, pi, pf, pt), pl) := ⟨_, rfl⟩
      have hic : isC S ((pk, pi, pf, pt), pl) = decide (E = 0 ∧ pk ≠ 3) := by rw [hE]; rfl
      rw [← hCH, ← hE] at hTk
      rw [← hE] at nE
      rw [← hCH, hic] at nC
      clear hCH hE hic hpm hp hat
      obtain ⟨cs, cr, ⟨o1, o2⟩, n1, n2⟩ := CH
      replace hTk := hide hTk
      have hpb := hide (fun w' (hx : Ext w w') => cell_later hx c0)
      have hcl2 : b < w.heap.size := block_lt_of_cell c0
      clear c0 c1 c2 c3 c4 hrw hpr
      by_cases hcond : E = 0 ∧ pk ≠ 3
      · rw [if_pos (decide_eq_true hcond)] at nC
        have d1 : (E == 0) = true := by rw [hcond.1]; rfl
        have d2 : (pk != 3) = true := by rw [bne_iff_ne]; exact hcond.2
        replace hcond := hide hcond
        go_wp2_with (first | (go_at_call 50; (refine hTk.out.mono ?_; rintro ee w1 ⟨u, ev', gv', EL', rfl, hu, hsd, hl', hF⟩; obtain ⟨UA, uc, eu⟩ := rwo_val hu; (try simp only at eu); subst eu; have hX1 := hide (ext_fr hX.out hF (sdBlk hSd.out)); have hO1 := hide (own_stay hO.out hF (sdNt hSd.out (by decide) (by decide) (by decide))); have hC1 := hide (hCL.out.stay hF (fun b hb => ⟨sdNt hSd.out (by decide) (by decide) (by decide) b hb, sdNt hSd.out (by decide) (by decide) (by decide) b hb⟩)); have m0 := hpb.out _ hX1.out; have hz1 := hX1.out.size; haveI : In b w1 := ⟨by omega⟩; have hOc := hide (Ob.new w1 44 (chO (.slice UA cr.length uc) (cs, cr, (o1, o2), n1, n2))); have hsE0 := src_one Tryz.underlying24 (w1.alloc (.cells (chO (.slice UA cr.length uc) (cs, cr, (o1, o2), n1, n2)).toArray 44)) (.int .i64 E) 35 rfl; rw [World.size_alloc] at hsE0; replace hsE0 := hide hsE0; replace hu := hide hu; replace hsd := hide hsd; clear hF)) | (at_builtin; (refine wpl_app tErn rfl (.tmp 30) (.tmp 32) rfl rfl (own_ext hO1.out (((Ext.refl w1).alloc (.cells (chO (.slice UA cr.length uc) (cs, cr, (o1, o2), n1, n2)).toArray 44)).alloc (.cells #[.int .i64 E] 35))) rfl hsE0.out (by unfold maxLen; omega) (by omega) (by simp only [World.size_alloc]; omega) ?_; intro v2 w2 ho2 hg2 hd2; obtain ⟨A2, c2, q2⟩ := own_form ho2; subst q2; replace hg2 : World.grownBy _ w2 (Value.slice OA RE.length oc).ownBlock := hg2; have hX2 := hide (ext_grown ((hX1.out.alloc (.cells (chO (.slice UA cr.length uc) (cs, cr, (o1, o2), n1, n2)).toArray 44)).alloc (.cells #[.int .i64 E] 35)) hg2 (fun q hq => (hO1.out.lt q hq).1)); have m2 := hpb.out _ hX2.out; have hz2 := hX2.out.size; haveI : In b w2 := ⟨by omega⟩; have hOw2 := own_ext hO1.out (((Ext.refl w1).alloc (.cells (chO (.slice UA cr.length uc) (cs, cr, (o1, o2), n1, n2)).toArray 44)).alloc (.cells #[.int .i64 E] 35)); have hsd2 := hide ((hsd.out.ext (((Ext.refl w1).alloc (.cells (chO (.slice UA cr.length uc) (cs, cr, (o1, o2), n1, n2)).toArray 44)).alloc (.cells #[.int .i64 E] 35))).stay (fr_grown hg2) (fun q hq => ⟨own_nt hOw2 (by decide) q hq, own_nt hOw2 (by decide) q hq, own_nt hOw2 (by decide) q hq, own_nt hOw2 (by decide) q hq⟩)); have hC2 := hide ((hC1.out.ext (((Ext.refl w1).alloc (.cells (chO (.slice UA cr.length uc) (cs, cr, (o1, o2), n1, n2)).toArray 44)).alloc (.cells #[.int .i64 E] 35))).stay (fr_grown hg2) (fun q hq => ⟨own_nt hOw2 (by decide) q hq, own_nt hOw2 (by decide) q hq⟩)); have hu2 := hide ((hu.out.ext (((Ext.refl w1).alloc (.cells (chO (.slice UA cr.length uc) (cs, cr, (o1, o2), n1, n2)).toArray 44)).alloc (.cells #[.int .i64 E] 35))).stay (fr_grown hg2) (own_nt hOw2 (by decide))); have hOcA := hOc.out.alloc (.cells #[.int .i64 E] 35); have hOc2 := hide (hOcA.grown hg2 (fun e => hOcA.not_own hOw2 (by decide) e.symm)); have y0 := hOc2.out.cell 0 rfl; have y1 := hOc2.out.cell 1 rfl; have y2 := hOc2.out.cell 2 rfl; have y3 := hOc2.out.cell 3 rfl; have y4 := hOc2.out.cell 4 rfl; have y5 := hOc2.out.cell 5 rfl; have ylt := hOc2.out.lt; haveI : In w1.heap.size w2 := ⟨ylt⟩; replace ho2 := hide ho2; clear hd2 hg2 hOw2 hOcA)) | (at_builtin; (refine wpl_app tChs rfl (.tmp 44) (.tmp 46) rfl rfl (own_ext hC2.out.1 ((Ext.refl w2).alloc (.cells (chO (.slice UA cr.length uc) (cs, cr, (o1, o2), n1, n2)).toArray 44))) rfl (src_sl Tryz.underlying26 (chO_new (.slice UA cr.length uc) (cs, cr, (o1, o2), n1, n2) w2) chO_one (by omega)) (by unfold maxLen; omega) (by omega) (by simp only [World.size_alloc]; omega) ?_; intro v3 w3 ho3 hg3 hd3; obtain ⟨A3, c3, q3⟩ := own_form ho3; subst q3; replace ho3 := hide ho3; replace hg3 : World.grownBy _ w3 (Value.slice CA CL.length cc).ownBlock := hg3; replace hg3 := hide hg3; clear hd3)))
        go_roundg (L.length - (k + 1))
        case measure => omega
        case rel =>
          have hCe := own_ext hC2.out.1 ((Ext.refl w2).alloc (.cells (chO (.slice UA cr.length uc) (cs, cr, (o1, o2), n1, n2)).toArray 44))
          have hF3 := fr_grown hg3.out
          refine ⟨k + 1, ev', gv', EL', CL ++ [(.slice UA cr.length uc, (cs, cr, (o1, o2), n1, n2))], by go_num, by omega, ?_, by omega, ?_, ?_, ?_, ?_⟩
          · show Sd _ _ _ _ _ _ _
            rw [nS.out]
            exact (hsd2.out.ext ((Ext.refl w2).alloc (.cells (chO (.slice UA cr.length uc) (cs, cr, (o1, o2), n1, n2)).toArray 44))).stay hF3 (fun q hq => ⟨own_nt hCe (by decide) q hq, own_nt hCe (by decide) q hq, own_nt hCe (by decide) q hq, own_nt hCe (by decide) q hq⟩)
          · show World.ownsRow _ _ _ _ _ _ _
            rw [nE.out, List.length_append, List.length_singleton]
            have := own_stay (own_ext ho2.out ((Ext.refl w2).alloc (.cells (chO (.slice UA cr.length uc) (cs, cr, (o1, o2), n1, n2)).toArray 44))) hF3 (own_nt hCe (by decide))
            simpa [ns] using this
          · exact OwnX.app (by decide) (hC2.out.ext ((Ext.refl w2).alloc (.cells (chO (.slice UA cr.length uc) (cs, cr, (o1, o2), n1, n2)).toArray 44))) (M := [(.slice UA cr.length uc, (cs, cr, (o1, o2), n1, n2))]) (by simpa using ho3.out) hg3.out (fun q hq => by rw [List.mem_singleton.1 hq]; exact hu2.out.ext ((Ext.refl w2).alloc (.cells (chO (.slice UA cr.length uc) (cs, cr, (o1, o2), n1, n2)).toArray 44)))
          · show List.map _ _ = _
            rw [nC.out, List.map_append, hCm.out]; rfl
          · exact ext_grown (hX2.out.alloc _) hg3.out (fun q hq => (hCe.lt q hq).1)
      · rw [if_neg (by rw [decide_eq_true_iff]; exact hcond), List.append_nil] at nC
        by_cases hE0 : E = 0
        · have d1 : (E == 0) = true := by rw [hE0]; rfl
          have d2 : (pk != 3) = false := by
            cases hq : (pk != 3) with
            | false => rfl
            | true => exact absurd ⟨hE0, bne_iff_ne.1 hq⟩ hcond
          replace hcond := hide hcond
          replace hE0 := hide hE0
          go_wp2_with (first | (go_at_call 50; (refine hTk.out.mono ?_; rintro ee w1 ⟨u, ev', gv', EL', rfl, hu, hsd, hl', hF⟩; obtain ⟨UA, uc, eu⟩ := rwo_val hu; (try simp only at eu); subst eu; have hX1 := hide (ext_fr hX.out hF (sdBlk hSd.out)); have hO1 := hide (own_stay hO.out hF (sdNt hSd.out (by decide) (by decide) (by decide))); have hC1 := hide (hCL.out.stay hF (fun b hb => ⟨sdNt hSd.out (by decide) (by decide) (by decide) b hb, sdNt hSd.out (by decide) (by decide) (by decide) b hb⟩)); have m0 := hpb.out _ hX1.out; have hz1 := hX1.out.size; haveI : In b w1 := ⟨by omega⟩; have hOc := hide (Ob.new w1 44 (chO (.slice UA cr.length uc) (cs, cr, (o1, o2), n1, n2))); have hsE0 := src_one Tryz.underlying24 (w1.alloc (.cells (chO (.slice UA cr.length uc) (cs, cr, (o1, o2), n1, n2)).toArray 44)) (.int .i64 E) 35 rfl; rw [World.size_alloc] at hsE0; replace hsE0 := hide hsE0; replace hu := hide hu; replace hsd := hide hsd; clear hF)) | (at_builtin; (refine wpl_app tErn rfl (.tmp 30) (.tmp 32) rfl rfl (own_ext hO1.out (((Ext.refl w1).alloc (.cells (chO (.slice UA cr.length uc) (cs, cr, (o1, o2), n1, n2)).toArray 44)).alloc (.cells #[.int .i64 E] 35))) rfl hsE0.out (by unfold maxLen; omega) (by omega) (by simp only [World.size_alloc]; omega) ?_; intro v2 w2 ho2 hg2 hd2; obtain ⟨A2, c2, q2⟩ := own_form ho2; subst q2; replace hg2 : World.grownBy _ w2 (Value.slice OA RE.length oc).ownBlock := hg2; have hX2 := hide (ext_grown ((hX1.out.alloc (.cells (chO (.slice UA cr.length uc) (cs, cr, (o1, o2), n1, n2)).toArray 44)).alloc (.cells #[.int .i64 E] 35)) hg2 (fun q hq => (hO1.out.lt q hq).1)); have m2 := hpb.out _ hX2.out; have hz2 := hX2.out.size; haveI : In b w2 := ⟨by omega⟩; have hOw2 := own_ext hO1.out (((Ext.refl w1).alloc (.cells (chO (.slice UA cr.length uc) (cs, cr, (o1, o2), n1, n2)).toArray 44)).alloc (.cells #[.int .i64 E] 35)); have hsd2 := hide ((hsd.out.ext (((Ext.refl w1).alloc (.cells (chO (.slice UA cr.length uc) (cs, cr, (o1, o2), n1, n2)).toArray 44)).alloc (.cells #[.int .i64 E] 35))).stay (fr_grown hg2) (fun q hq => ⟨own_nt hOw2 (by decide) q hq, own_nt hOw2 (by decide) q hq, own_nt hOw2 (by decide) q hq, own_nt hOw2 (by decide) q hq⟩)); have hC2 := hide ((hC1.out.ext (((Ext.refl w1).alloc (.cells (chO (.slice UA cr.length uc) (cs, cr, (o1, o2), n1, n2)).toArray 44)).alloc (.cells #[.int .i64 E] 35))).stay (fr_grown hg2) (fun q hq => ⟨own_nt hOw2 (by decide) q hq, own_nt hOw2 (by decide) q hq⟩)); have hu2 := hide ((hu.out.ext (((Ext.refl w1).alloc (.cells (chO (.slice UA cr.length uc) (cs, cr, (o1, o2), n1, n2)).toArray 44)).alloc (.cells #[.int .i64 E] 35))).stay (fr_grown hg2) (own_nt hOw2 (by decide))); have hOcA := hOc.out.alloc (.cells #[.int .i64 E] 35); have hOc2 := hide (hOcA.grown hg2 (fun e => hOcA.not_own hOw2 (by decide) e.symm)); have y0 := hOc2.out.cell 0 rfl; have y1 := hOc2.out.cell 1 rfl; have y2 := hOc2.out.cell 2 rfl; have y3 := hOc2.out.cell 3 rfl; have y4 := hOc2.out.cell 4 rfl; have y5 := hOc2.out.cell 5 rfl; have ylt := hOc2.out.lt; haveI : In w1.heap.size w2 := ⟨ylt⟩; replace ho2 := hide ho2; clear hd2 hg2 hOw2 hOcA)))
          go_roundg (L.length - (k + 1))
          case measure => omega
          case rel =>
            refine ⟨k + 1, ev', gv', EL', CL, by go_num, by omega, ?_, by omega, ?_, hC2.out, ?_, hX2.out⟩
            · show Sd _ _ _ _ _ _ _
              rw [nS.out]
              exact hsd2.out
            · show World.ownsRow _ _ _ _ _ _ _
              rw [nE.out, List.length_append, List.length_singleton]
              simpa [ns] using ho2.out
            · show List.map _ _ = _
              rw [nC.out, hCm.out]
        · have d1 : (E == 0) = false := by rw [beq_eq_false_iff_ne]; exact hE0
          replace hcond := hide hcond
          replace hE0 := hide hE0
          go_wp2_with (first | (go_at_call 50; (refine hTk.out.mono ?_; rintro ee w1 ⟨u, ev', gv', EL', rfl, hu, hsd, hl', hF⟩; obtain ⟨UA, uc, eu⟩ := rwo_val hu; (try simp only at eu); subst eu; have hX1 := hide (ext_fr hX.out hF (sdBlk hSd.out)); have hO1 := hide (own_stay hO.out hF (sdNt hSd.out (by decide) (by decide) (by decide))); have hC1 := hide (hCL.out.stay hF (fun b hb => ⟨sdNt hSd.out (by decide) (by decide) (by decide) b hb, sdNt hSd.out (by decide) (by decide) (by decide) b hb⟩)); have m0 := hpb.out _ hX1.out; have hz1 := hX1.out.size; haveI : In b w1 := ⟨by omega⟩; have hOc := hide (Ob.new w1 44 (chO (.slice UA cr.length uc) (cs, cr, (o1, o2), n1, n2))); have hsE0 := src_one Tryz.underlying24 (w1.alloc (.cells (chO (.slice UA cr.length uc) (cs, cr, (o1, o2), n1, n2)).toArray 44)) (.int .i64 E) 35 rfl; rw [World.size_alloc] at hsE0; replace hsE0 := hide hsE0; replace hu := hide hu; replace hsd := hide hsd; clear hF)) | (at_builtin; (refine wpl_app tErn rfl (.tmp 30) (.tmp 32) rfl rfl (own_ext hO1.out (((Ext.refl w1).alloc (.cells (chO (.slice UA cr.length uc) (cs, cr, (o1, o2), n1, n2)).toArray 44)).alloc (.cells #[.int .i64 E] 35))) rfl hsE0.out (by unfold maxLen; omega) (by omega) (by simp only [World.size_alloc]; omega) ?_; intro v2 w2 ho2 hg2 hd2; obtain ⟨A2, c2, q2⟩ := own_form ho2; subst q2; replace hg2 : World.grownBy _ w2 (Value.slice OA RE.length oc).ownBlock := hg2; have hX2 := hide (ext_grown ((hX1.out.alloc (.cells (chO (.slice UA cr.length uc) (cs, cr, (o1, o2), n1, n2)).toArray 44)).alloc (.cells #[.int .i64 E] 35)) hg2 (fun q hq => (hO1.out.lt q hq).1)); have m2 := hpb.out _ hX2.out; have hz2 := hX2.out.size; haveI : In b w2 := ⟨by omega⟩; have hOw2 := own_ext hO1.out (((Ext.refl w1).alloc (.cells (chO (.slice UA cr.length uc) (cs, cr, (o1, o2), n1, n2)).toArray 44)).alloc (.cells #[.int .i64 E] 35)); have hsd2 := hide ((hsd.out.ext (((Ext.refl w1).alloc (.cells (chO (.slice UA cr.length uc) (cs, cr, (o1, o2), n1, n2)).toArray 44)).alloc (.cells #[.int .i64 E] 35))).stay (fr_grown hg2) (fun q hq => ⟨own_nt hOw2 (by decide) q hq, own_nt hOw2 (by decide) q hq, own_nt hOw2 (by decide) q hq, own_nt hOw2 (by decide) q hq⟩)); have hC2 := hide ((hC1.out.ext (((Ext.refl w1).alloc (.cells (chO (.slice UA cr.length uc) (cs, cr, (o1, o2), n1, n2)).toArray 44)).alloc (.cells #[.int .i64 E] 35))).stay (fr_grown hg2) (fun q hq => ⟨own_nt hOw2 (by decide) q hq, own_nt hOw2 (by decide) q hq⟩)); have hu2 := hide ((hu.out.ext (((Ext.refl w1).alloc (.cells (chO (.slice UA cr.length uc) (cs, cr, (o1, o2), n1, n2)).toArray 44)).alloc (.cells #[.int .i64 E] 35))).stay (fr_grown hg2) (own_nt hOw2 (by decide))); have hOcA := hOc.out.alloc (.cells #[.int .i64 E] 35); have hOc2 := hide (hOcA.grown hg2 (fun e => hOcA.not_own hOw2 (by decide) e.symm)); have y0 := hOc2.out.cell 0 rfl; have y1 := hOc2.out.cell 1 rfl; have y2 := hOc2.out.cell 2 rfl; have y3 := hOc2.out.cell 3 rfl; have y4 := hOc2.out.cell 4 rfl; have y5 := hOc2.out.cell 5 rfl; have ylt := hOc2.out.lt; haveI : In w1.heap.size w2 := ⟨ylt⟩; replace ho2 := hide ho2; clear hd2 hg2 hOw2 hOcA)))
          go_roundg (L.length - (k + 1))
          case measure => omega
          case rel =>
            refine ⟨k + 1, ev', gv', EL', CL, by go_num, by omega, ?_, by omega, ?_, hC2.out, ?_, hX2.out⟩
            · show Sd _ _ _ _ _ _ _
              rw [nS.out]
              exact hsd2.out
            · show World.ownsRow _ _ _ _ _ _ _
              rw [nE.out, List.length_append, List.length_singleton]
              simpa [ns] using ho2.out
            · show List.map _ _ = _
              rw [nC.out, hCm.out]
    · have hke : k = L.length := by omega
      subst hke
      have hge : ¬ ((L.length : Int) < L.length) := by omega
      have dk : decide ((L.length : Int) < L.length) = false := decide_eq_false hge
      have ht : (pms L).take L.length = pms L := List.take_of_length_le (by unfold pms; rw [List.length_map]; exact Nat.le_refl _)
      rw [ht] at hSd hO hCm
      rw [ht]
      replace ht := hide ht
      clear hat hrw hEl hCl2
      go_wp2_with fail
      go_returns
      exact ⟨_, _, rfl, ev, gv, EL, CL, hO.out, hCL.out, hCm.out, hSd.out, by unfold pms; rw [List.length_map]; exact hel, hX.out⟩
end Go.Proofs.YtiknkcadbaeknaaGreat
set_option linter.unusedVariables false
set_option linter.unusedSimpArgs false
namespace Go.Proofs.YtiknkcadbaeknaaGreat
open Go.RowKit
/-- The jumps of a change: by the code, by the document. -/
def chJ (o n : Spn) : List Jp := [(n.1, 1), (n.2, -1), (o.1, -1), (o.2, 1)]
def chD (o n : Spn) : List Jp := (if n = (0, 0) then [] else [(n.1, 1), (n.2, -1)]) ++ (if o = (0, 0) then [] else [(o.1, -1), (o.2, 1)])
def spanB (s : Spn) : Bool := smayB s.1 s.2
def lifeB (s : Spn) : Bool := spanB s || decide (s = (0, 0))
end Go.Proofs.YtiknkcadbaeknaaGreat
set_option linter.unusedVariables false
set_option linter.unusedSimpArgs false
namespace Go.Proofs.YtiknkcadbaeknaaGreat
open Go.RowKit
attribute [local go_sem] GW.cell GW.frozen In.eq_true In.le_true In.ne In.ne' In.ne_add In.ne_add' In.lt_add Upto.le_true Upto.le_add Upto.lt_add
def pI : List Vl := [(1, 1, ⟨#[]⟩)]
end Go.Proofs.YtiknkcadbaeknaaGreat
