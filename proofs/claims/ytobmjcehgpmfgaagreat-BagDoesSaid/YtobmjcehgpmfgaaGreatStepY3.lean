/-
  A helper of ours: no claim of its own. Layer 9 (step): the document's side: the other sign, parts, jumps put together.
-/
import Derived.Test.YtobmjcehgpmfgaaGreatStepZ
import Derived.Test.YtobmjcehgpmfgaaGreatEdgEn
set_option linter.unusedVariables false
set_option linter.unusedSimpArgs false
namespace Go.Proofs.YtobmjcehgpmfgaaGreat
open Go.RowKit
attribute [local go_sem] GW.cell GW.frozen In.eq_true In.le_true In.ne In.ne' In.ne_add In.ne_add' In.lt_add Upto.le_true Upto.le_add Upto.lt_add
set_option maxHeartbeats 8000000 in
set_option maxRecDepth 100000 in
theorem jrefAhead_c (l : List Jp) (t : Int) (v : Value) (w : World) (h : Jw w [] v l) : Calls Tryz.prog 151 #[v, .int .i64 t] w fun e w' => ∃ v', e = .returned (.tuple #[v', .int .i64 (ahE l t)]) ∧ OwnJ w' w.heap.size v' (ahR l t) ∧ Ext w w' := by
  have hm := hide (refStepMay_c l v w h)
  obtain ⟨E, hE⟩ : ∃ E, E = ahE l t := ⟨_, rfl⟩
  obtain ⟨R, hR⟩ : ∃ R, R = ahR l t := ⟨_, rfl⟩
  rw [← hE, ← hR]
  cases ha : mayJ l
  · have e1 : E = 2 := by rw [hE]; unfold ahE; rw [ha]; rfl
    have e2 : R = [] := by rw [hR]; unfold ahR; rw [← hE, e1, if_neg (by decide)]
    subst e1
    subst e2
    rw [ha] at hm
    obtain ⟨A, cap, rfl, -, -, -⟩ := jw_form h
    clear ha hE hR h
    go_enter Tryz.func151, Tryz.ntmps151
    go_wp2_with (go_at_call 145; (with_reducible refine seq_gw hm.out ?_); intro q)
    go_returns
    exact ⟨_, rfl, World.ownsRow_nil _ _ _ _, q.grown⟩
  rw [ha] at hm
  obtain ⟨vf, hvfe⟩ : ∃ vf : Int → Int, vf = ahV l t := ⟨_, rfl⟩
  obtain ⟨ps, hpse⟩ : ∃ ps, ps = ahP l t := ⟨_, rfl⟩
  have hFt : Hid (E = full (tell vf ps 0) ∧ R = kept (tell vf ps 0)) := by
    show _ ∧ _
    rw [hE, hR, hvfe, hpse]
    have e : ahE l t = full (ahL l t) := by unfold ahE; rw [ha]; rfl
    refine ⟨e, ?_⟩
    unfold ahR
    rw [e]
    show (if full (ahL l t) = 0 then ahL l t else []) = kept (ahL l t)
    unfold full kept
    cases mayJ (ahL l t) <;> rfl
  have hvf : Hid (∀ p, vf p = if p < t then jv l p else 0) := fun p => by rw [hvfe]; rfl
  have hpl : Hid (ps.length ≤ 4096) := by
    show _ ≤ _; rw [hpse]
    have h1 := plc_length l [] Asc.nil'
    have h2 := ins_length (plc [] l) t (plc_asc _ _ Asc.nil')
    have h3 := mayJ_len ha
    simp only [List.length_nil] at h1
    unfold ahP; split <;> omega
  have hb1 := hide (fun p => mayJ_jv ha p)
  have hbv : Hid (∀ p, -1152921504606846976 ≤ vf p ∧ vf p ≤ 1152921504606846976) := fun p => by have := hb1.out p; rw [hvf.out p]; split <;> omega
  have hbv' : Hid (∀ p ∈ ps, -1152921504606846976 ≤ vf p ∧ vf p ≤ 1152921504606846976) := fun p _ => hbv.out p
  have hpI : (ps.length : Int) ≤ 4096 := by have := hpl.out; omega
  have hv1 := hide (fun p w' (hX : Ext w w') => refValue_c l (mayJ_net ha) (mayJ_4096 ha) p v w' (Sl.ext h hX))
  have hplc := hide (fun w' (hX : Ext w w') => places_c l [] (mayJ_len ha) (by simp) v (.slice none 0 0) w' (Sl.ext h hX) (Sl.nil _ _ _))
  rw [show plc (plc [] l) [] = plc [] l from rfl] at hplc
  have hpl0 : Hid ((plc [] l).length ≤ 1024) := by show _ ≤ _; have := plc_length l [] Asc.nil'; have := mayJ_len ha; simp only [List.length_nil] at *; omega
  obtain ⟨A, cap, rfl, -, -, -⟩ := jw_form h
  by_cases hc1 : -1 ≤ t
  · by_cases hc2 : t < 1125899906842624
    · have hps2 : Hid (ps = ins (plc [] l) t) := by show _ = _; rw [hpse]; unfold ahP; rw [if_pos ⟨hc1, hc2⟩]
      clear ha hE hR h hpse hvfe
      go_enter Tryz.func151, Tryz.ntmps151
      go_wp2_with (first | (go_at_call 145; (with_reducible refine seq_gw hm.out ?_); intro q) | (go_at_call 211; refine (hplc.out _ q.grown).mono ?_; rintro ee wp0 ⟨vp0, rfl, hz0, hxp0⟩; have hX0 := hide (q.grown.trans hxp0); obtain ⟨P0, pcap0, rfl, -, -, -⟩ := zw_form hz0; replace hz0 := hide hz0) | (go_at_call 212; refine (with_c (plc [] l) (plc_asc _ _ Asc.nil') (by have := hpl0.out; omega) t _ wp0 hz0.out).mono ?_; rintro ee wp ⟨vp, rfl, hz, hxp⟩; rw [← hps2.out] at hz; have hXp := hide (hX0.out.trans hxp); have hXpB := hXp.out.size; obtain ⟨P, pcap, rfl, hpc1, hpc2, hpt⟩ := zw_form hz; unfold maxLen at hpc2; replace hpt := hide hpt; have hzp := hide hz; clear hz))
      clear hm hplc
      go_loopg [7, 8] ps.length (fun gh u i wr => ∃ (k : Nat), i = .int .i64 k ∧ k + gh = ps.length ∧ OwnZ wr wp.heap.size u ((ps.take k).map vf) ∧ Ext wp wr)
      case atStart => exact ⟨0, rfl, by omega, World.ownsRow_lit (base := wp.heap.size) (e := 3) (size := 1) wp #[] 0 (Nat.le_refl _) (by decide) rfl, (Ext.refl wp).alloc _⟩
      case round =>
        obtain ⟨k, rfl, hk, ho, hXr⟩ := hrel
        have hX := hXp.out.trans hXr
        have hzX := hX.size
        have hzX2 := hXr.size
        have htl : ((ps.take k).map vf).length ≤ k := by rw [List.length_map, List.length_take]; omega
        by_cases hlt : k < ps.length
        · obtain ⟨p, hp⟩ : ∃ p, ps[k]? = some p := ⟨_, List.getElem?_eq_getElem hlt⟩
          obtain ⟨pb, po, rfl, -, hpb, c0⟩ := hpt.out k p hp
          have k0 := jcell_later hXr c0
          have hbr : pb < wr.heap.size := block_lt_of_cell k0
          haveI : In pb wr := ⟨hbr⟩
          have hnx := map_next vf hp
          have hbp := hbv.out p
          obtain ⟨C, ccap, rfl⟩ := own_form ho
          replace ho := hide ho
          have hvp := hvf.out p
          generalize vf p = x at *
          generalize (ps.take k).map vf = acc at *
          replace hnx := hide hnx
          have c0h := hide c0
          clear c0 hp
          have hv1p := hide (hv1.out p)
          obtain ⟨a1, a2⟩ := hb1.out p
          generalize jv l p = a at *
          by_cases hpt : p < t
          · have hvx : x = a := hvp.trans (if_pos hpt)
            clear hvp
            subst hvx
            go_wp2_with (first | (go_at_call 210; (with_reducible refine seq_gw (hv1p.out _ hX) ?_); intro q1; have hz2 := GW.size q1) | (at_builtin; (refine wpl_app tZ rfl (.tmp 43) (.tmp 45) rfl rfl (own_ext ho.out ((q1.grown).alloc _)) rfl (src_z Tryz.underlying215 _ _ rfl x _) (by unfold maxLen; omega) (by omega) (by simp only [World.size_alloc]; omega) ?_; intro v8 w8 ho8 hg8 _)))
            go_roundg (ps.length - (k + 1))
            case measure => omega
            case rel => exact ⟨k + 1, by go_num, by omega, by rw [hnx.out]; exact own_appZ ho8, ext_grown ((hXr.trans q1.grown).alloc _) hg8 (fun q hq => (ho.out.lt q hq).1)⟩
          · have hvx : x = 0 := hvp.trans (if_neg hpt)
            have dpt : decide (p < t) = false := by rw [decide_eq_false_iff_not]; exact hpt
            clear hvp hpt
            subst hvx
            go_wp2_with (at_builtin; (refine wpl_app tZ rfl (.tmp 43) (.tmp 45) rfl rfl (own_ext ho.out (((Ext.refl wr)).alloc _)) rfl (src_z Tryz.underlying215 _ _ rfl 0 _) (by unfold maxLen; omega) (by omega) (by simp only [World.size_alloc]; omega) ?_; intro v8 w8 ho8 hg8 _))
            go_roundg (ps.length - (k + 1))
            case measure => omega
            case rel => exact ⟨k + 1, by go_num, by omega, by rw [hnx.out]; exact own_appZ ho8, ext_grown (hXr.alloc _) hg8 (fun q hq => (ho.out.lt q hq).1)⟩
        · have hk' : k = ps.length := by omega
          have hge : (ps.length : Int) ≤ k := by omega
          rw [hk', List.take_length] at ho
          have htd := hide (told_c ps vf hbv'.out hpl.out _ _ wr (Sl.ext hzp.out hXr) (own_zw ho))
          rw [← hFt.out.1, ← hFt.out.2] at htd
          obtain ⟨C, ccap, rfl⟩ := own_form ho
          rw [List.length_map] at htd ⊢
          replace hk' := hide hk'
          clear ho htl
          go_wp2_with (go_at_call 213; refine htd.out.mono ?_; rintro ee w9 ⟨v9, rfl, ho9, hx9⟩)
          go_returns
          exact ⟨_, rfl, own_base ho9 hzX, hX.trans hx9⟩
    · have hps2 : Hid (ps = plc [] l) := by show _ = _; rw [hpse]; unfold ahP; rw [if_neg (fun h => hc2 h.2)]
      have d2 : decide (t < 1125899906842624) = false := by rw [decide_eq_false_iff_not]; exact hc2
      clear ha hE hR h hpse hvfe hc2
      go_enter Tryz.func151, Tryz.ntmps151
      go_wp2_with (first | (go_at_call 145; (with_reducible refine seq_gw hm.out ?_); intro q) | (go_at_call 211; refine (hplc.out _ q.grown).mono ?_; rintro ee wp ⟨vp0, rfl, hz0, hxp0⟩; have hX0 := hide (q.grown.trans hxp0); rw [← hps2.out] at hz0; have hXp := hX0; have hXpB := hXp.out.size; obtain ⟨P, pcap, rfl, hpc1, hpc2, hpt⟩ := zw_form hz0; unfold maxLen at hpc2; replace hpt := hide hpt; have hzp := hide hz0; clear hz0))
      clear hm hplc
      go_loopg [7, 8] ps.length (fun gh u i wr => ∃ (k : Nat), i = .int .i64 k ∧ k + gh = ps.length ∧ OwnZ wr wp.heap.size u ((ps.take k).map vf) ∧ Ext wp wr)
      case atStart => exact ⟨0, rfl, by omega, World.ownsRow_lit (base := wp.heap.size) (e := 3) (size := 1) wp #[] 0 (Nat.le_refl _) (by decide) rfl, (Ext.refl wp).alloc _⟩
      case round =>
        obtain ⟨k, rfl, hk, ho, hXr⟩ := hrel
        have hX := hXp.out.trans hXr
        have hzX := hX.size
        have hzX2 := hXr.size
        have htl : ((ps.take k).map vf).length ≤ k := by rw [List.length_map, List.length_take]; omega
        by_cases hlt : k < ps.length
        · obtain ⟨p, hp⟩ : ∃ p, ps[k]? = some p := ⟨_, List.getElem?_eq_getElem hlt⟩
          obtain ⟨pb, po, rfl, -, hpb, c0⟩ := hpt.out k p hp
          have k0 := jcell_later hXr c0
          have hbr : pb < wr.heap.size := block_lt_of_cell k0
          haveI : In pb wr := ⟨hbr⟩
          have hnx := map_next vf hp
          have hbp := hbv.out p
          obtain ⟨C, ccap, rfl⟩ := own_form ho
          replace ho := hide ho
          have hvp := hvf.out p
          generalize vf p = x at *
          generalize (ps.take k).map vf = acc at *
          replace hnx := hide hnx
          have c0h := hide c0
          clear c0 hp
          have hv1p := hide (hv1.out p)
          obtain ⟨a1, a2⟩ := hb1.out p
          generalize jv l p = a at *
          by_cases hpt : p < t
          · have hvx : x = a := hvp.trans (if_pos hpt)
            clear hvp
            subst hvx
            go_wp2_with (first | (go_at_call 210; (with_reducible refine seq_gw (hv1p.out _ hX) ?_); intro q1; have hz2 := GW.size q1) | (at_builtin; (refine wpl_app tZ rfl (.tmp 43) (.tmp 45) rfl rfl (own_ext ho.out ((q1.grown).alloc _)) rfl (src_z Tryz.underlying215 _ _ rfl x _) (by unfold maxLen; omega) (by omega) (by simp only [World.size_alloc]; omega) ?_; intro v8 w8 ho8 hg8 _)))
            go_roundg (ps.length - (k + 1))
            case measure => omega
            case rel => exact ⟨k + 1, by go_num, by omega, by rw [hnx.out]; exact own_appZ ho8, ext_grown ((hXr.trans q1.grown).alloc _) hg8 (fun q hq => (ho.out.lt q hq).1)⟩
          · have hvx : x = 0 := hvp.trans (if_neg hpt)
            have dpt : decide (p < t) = false := by rw [decide_eq_false_iff_not]; exact hpt
            clear hvp hpt
            subst hvx
            go_wp2_with (at_builtin; (refine wpl_app tZ rfl (.tmp 43) (.tmp 45) rfl rfl (own_ext ho.out (((Ext.refl wr)).alloc _)) rfl (src_z Tryz.underlying215 _ _ rfl 0 _) (by unfold maxLen; omega) (by omega) (by simp only [World.size_alloc]; omega) ?_; intro v8 w8 ho8 hg8 _))
            go_roundg (ps.length - (k + 1))
            case measure => omega
            case rel => exact ⟨k + 1, by go_num, by omega, by rw [hnx.out]; exact own_appZ ho8, ext_grown (hXr.alloc _) hg8 (fun q hq => (ho.out.lt q hq).1)⟩
        · have hk' : k = ps.length := by omega
          have hge : (ps.length : Int) ≤ k := by omega
          rw [hk', List.take_length] at ho
          have htd := hide (told_c ps vf hbv'.out hpl.out _ _ wr (Sl.ext hzp.out hXr) (own_zw ho))
          rw [← hFt.out.1, ← hFt.out.2] at htd
          obtain ⟨C, ccap, rfl⟩ := own_form ho
          rw [List.length_map] at htd ⊢
          replace hk' := hide hk'
          clear ho htl
          go_wp2_with (go_at_call 213; refine htd.out.mono ?_; rintro ee w9 ⟨v9, rfl, ho9, hx9⟩)
          go_returns
          exact ⟨_, rfl, own_base ho9 hzX, hX.trans hx9⟩
  · have hps2 : Hid (ps = plc [] l) := by show _ = _; rw [hpse]; unfold ahP; rw [if_neg (fun h => hc1 h.1)]
    have d1 : decide (-1 ≤ t) = false := by rw [decide_eq_false_iff_not]; exact hc1
    clear ha hE hR h hpse hvfe hc1
    go_enter Tryz.func151, Tryz.ntmps151
    go_wp2_with (first | (go_at_call 145; (with_reducible refine seq_gw hm.out ?_); intro q) | (go_at_call 211; refine (hplc.out _ q.grown).mono ?_; rintro ee wp ⟨vp0, rfl, hz0, hxp0⟩; have hX0 := hide (q.grown.trans hxp0); rw [← hps2.out] at hz0; have hXp := hX0; have hXpB := hXp.out.size; obtain ⟨P, pcap, rfl, hpc1, hpc2, hpt⟩ := zw_form hz0; unfold maxLen at hpc2; replace hpt := hide hpt; have hzp := hide hz0; clear hz0))
    clear hm hplc
    go_loopg [7, 8] ps.length (fun gh u i wr => ∃ (k : Nat), i = .int .i64 k ∧ k + gh = ps.length ∧ OwnZ wr wp.heap.size u ((ps.take k).map vf) ∧ Ext wp wr)
    case atStart => exact ⟨0, rfl, by omega, World.ownsRow_lit (base := wp.heap.size) (e := 3) (size := 1) wp #[] 0 (Nat.le_refl _) (by decide) rfl, (Ext.refl wp).alloc _⟩
    case round =>
      obtain ⟨k, rfl, hk, ho, hXr⟩ := hrel
      have hX := hXp.out.trans hXr
      have hzX := hX.size
      have hzX2 := hXr.size
      have htl : ((ps.take k).map vf).length ≤ k := by rw [List.length_map, List.length_take]; omega
      by_cases hlt : k < ps.length
      · obtain ⟨p, hp⟩ : ∃ p, ps[k]? = some p := ⟨_, List.getElem?_eq_getElem hlt⟩
        obtain ⟨pb, po, rfl, -, hpb, c0⟩ := hpt.out k p hp
        have k0 := jcell_later hXr c0
        have hbr : pb < wr.heap.size := block_lt_of_cell k0
        haveI : In pb wr := ⟨hbr⟩
        have hnx := map_next vf hp
        have hbp := hbv.out p
        obtain ⟨C, ccap, rfl⟩ := own_form ho
        replace ho := hide ho
        have hvp := hvf.out p
        generalize vf p = x at *
        generalize (ps.take k).map vf = acc at *
        replace hnx := hide hnx
        have c0h := hide c0
        clear c0 hp
        have hv1p := hide (hv1.out p)
        obtain ⟨a1, a2⟩ := hb1.out p
        generalize jv l p = a at *
        by_cases hpt : p < t
        · have hvx : x = a := hvp.trans (if_pos hpt)
          clear hvp
          subst hvx
          go_wp2_with (first | (go_at_call 210; (with_reducible refine seq_gw (hv1p.out _ hX) ?_); intro q1; have hz2 := GW.size q1) | (at_builtin; (refine wpl_app tZ rfl (.tmp 43) (.tmp 45) rfl rfl (own_ext ho.out ((q1.grown).alloc _)) rfl (src_z Tryz.underlying215 _ _ rfl x _) (by unfold maxLen; omega) (by omega) (by simp only [World.size_alloc]; omega) ?_; intro v8 w8 ho8 hg8 _)))
          go_roundg (ps.length - (k + 1))
          case measure => omega
          case rel => exact ⟨k + 1, by go_num, by omega, by rw [hnx.out]; exact own_appZ ho8, ext_grown ((hXr.trans q1.grown).alloc _) hg8 (fun q hq => (ho.out.lt q hq).1)⟩
        · have hvx : x = 0 := hvp.trans (if_neg hpt)
          have dpt : decide (p < t) = false := by rw [decide_eq_false_iff_not]; exact hpt
          clear hvp hpt
          subst hvx
          go_wp2_with (at_builtin; (refine wpl_app tZ rfl (.tmp 43) (.tmp 45) rfl rfl (own_ext ho.out (((Ext.refl wr)).alloc _)) rfl (src_z Tryz.underlying215 _ _ rfl 0 _) (by unfold maxLen; omega) (by omega) (by simp only [World.size_alloc]; omega) ?_; intro v8 w8 ho8 hg8 _))
          go_roundg (ps.length - (k + 1))
          case measure => omega
          case rel => exact ⟨k + 1, by go_num, by omega, by rw [hnx.out]; exact own_appZ ho8, ext_grown (hXr.alloc _) hg8 (fun q hq => (ho.out.lt q hq).1)⟩
      · have hk' : k = ps.length := by omega
        have hge : (ps.length : Int) ≤ k := by omega
        rw [hk', List.take_length] at ho
        have htd := hide (told_c ps vf hbv'.out hpl.out _ _ wr (Sl.ext hzp.out hXr) (own_zw ho))
        rw [← hFt.out.1, ← hFt.out.2] at htd
        obtain ⟨C, ccap, rfl⟩ := own_form ho
        rw [List.length_map] at htd ⊢
        replace hk' := hide hk'
        clear ho htl
        go_wp2_with (go_at_call 213; refine htd.out.mono ?_; rintro ee w9 ⟨v9, rfl, ho9, hx9⟩)
        go_returns
        exact ⟨_, rfl, own_base ho9 hzX, hX.trans hx9⟩
end Go.Proofs.YtobmjcehgpmfgaaGreat
set_option linter.unusedVariables false
set_option linter.unusedSimpArgs false
namespace Go.Proofs.YtobmjcehgpmfgaaGreat
open Go.RowKit
attribute [local go_sem] GW.cell GW.frozen In.eq_true In.le_true In.ne In.ne' In.ne_add In.ne_add' In.lt_add Upto.le_true Upto.le_add Upto.lt_add
set_option maxHeartbeats 8000000 in
set_option maxRecDepth 100000 in
theorem jrefRest_c (l : List Jp) (t : Int) (v : Value) (w : World) (h : Jw w [] v l) : Calls Tryz.prog 152 #[v, .int .i64 t] w fun e w' => ∃ v', e = .returned (.tuple #[v', .int .i64 (reE l t)]) ∧ OwnJ w' w.heap.size v' (reR l t) ∧ Ext w w' := by
  have hm := hide (refStepMay_c l v w h)
  obtain ⟨E, hE⟩ : ∃ E, E = reE l t := ⟨_, rfl⟩
  obtain ⟨R, hR⟩ : ∃ R, R = reR l t := ⟨_, rfl⟩
  rw [← hE, ← hR]
  cases ha : mayJ l
  · have e1 : E = 2 := by rw [hE]; unfold reE; rw [ha]; rfl
    have e2 : R = [] := by rw [hR]; unfold reR; rw [← hE, e1, if_neg (by decide)]
    subst e1
    subst e2
    rw [ha] at hm
    obtain ⟨A, cap, rfl, -, -, -⟩ := jw_form h
    clear ha hE hR h
    go_enter Tryz.func152, Tryz.ntmps152
    go_wp2_with (go_at_call 145; (with_reducible refine seq_gw hm.out ?_); intro q)
    go_returns
    exact ⟨_, rfl, World.ownsRow_nil _ _ _ _, q.grown⟩
  rw [ha] at hm
  by_cases htF : 1125899906842624 ≤ t
  · have e0 : reL l t = [] := by unfold reL; rw [if_pos htF]
    have e1 : E = 0 := by rw [hE]; unfold reE; rw [ha, e0]; rfl
    have e2 : R = [] := by rw [hR]; unfold reR; rw [← hE, e1, if_pos rfl, e0]
    subst e1
    subst e2
    obtain ⟨A, cap, rfl, -, -, -⟩ := jw_form h
    clear e0 hE hR h ha
    go_enter Tryz.func152, Tryz.ntmps152
    go_wp2_with (go_at_call 145; (with_reducible refine seq_gw hm.out ?_); intro q)
    go_returns
    exact ⟨_, rfl, World.ownsRow_nil _ _ _ _, q.grown⟩
  have dF : decide (1125899906842624 ≤ t) = false := by rw [decide_eq_false_iff_not]; exact htF
  have htF' : t < 1125899906842624 := by omega
  obtain ⟨vf, hvfe⟩ : ∃ vf : Int → Int, vf = reV l t := ⟨_, rfl⟩
  obtain ⟨ps, hpse⟩ : ∃ ps, ps = reP l := ⟨_, rfl⟩
  have hFt : Hid (E = full (tell vf ps 0) ∧ R = kept (tell vf ps 0)) := by
    show _ ∧ _
    rw [hE, hR, hvfe, hpse]
    have e0 : reL l t = tell (reV l t) (reP l) 0 := by unfold reL; rw [if_neg htF]
    have e : reE l t = full (reL l t) := by unfold reE; rw [ha]; rfl
    rw [← e0]
    refine ⟨e, ?_⟩
    unfold reR
    rw [e]
    unfold full kept
    cases mayJ (reL l t) <;> rfl
  have hvf : Hid (∀ p, vf p = jv l (if -1 < t ∧ p < t then t - 1 else p)) := fun p => by rw [hvfe]; rfl
  have hpl : Hid (ps.length ≤ 4096) := by
    show _ ≤ _; rw [hpse]
    have h1 := plc_length l [] Asc.nil'
    have h2 := ins_length (plc [] l) (-1) (plc_asc _ _ Asc.nil')
    have h3 := mayJ_len ha
    simp only [List.length_nil] at h1
    unfold reP; omega
  have hb1 := hide (fun p => mayJ_jv ha p)
  have hbv : Hid (∀ p, -1152921504606846976 ≤ vf p ∧ vf p ≤ 1152921504606846976) := fun p => by rw [hvf.out p]; have := hb1.out (if -1 < t ∧ p < t then t - 1 else p); omega
  have hbv' : Hid (∀ p ∈ ps, -1152921504606846976 ≤ vf p ∧ vf p ≤ 1152921504606846976) := fun p _ => hbv.out p
  have hpI : (ps.length : Int) ≤ 4096 := by have := hpl.out; omega
  have hv1 := hide (fun p w' (hX : Ext w w') => refValue_c l (mayJ_net ha) (mayJ_4096 ha) p v w' (Sl.ext h hX))
  have hplc := hide (fun w' (hX : Ext w w') => places_c l [] (mayJ_len ha) (by simp) v (.slice none 0 0) w' (Sl.ext h hX) (Sl.nil _ _ _))
  rw [show plc (plc [] l) [] = plc [] l from rfl] at hplc
  have hpl0 : Hid ((plc [] l).length ≤ 1024) := by show _ ≤ _; have := plc_length l [] Asc.nil'; have := mayJ_len ha; simp only [List.length_nil] at *; omega
  obtain ⟨A, cap, rfl, -, -, -⟩ := jw_form h
  have hps2 : Hid (ps = ins (plc [] l) (-1)) := by show _ = _; rw [hpse]; rfl
  clear ha hE hR h hpse hvfe htF
  go_enter Tryz.func152, Tryz.ntmps152
  go_wp2_with (first | (go_at_call 145; (with_reducible refine seq_gw hm.out ?_); intro q) | (go_at_call 211; refine (hplc.out _ q.grown).mono ?_; rintro ee wp0 ⟨vp0, rfl, hz0, hxp0⟩; have hX0 := hide (q.grown.trans hxp0); obtain ⟨P0, pcap0, rfl, -, -, -⟩ := zw_form hz0; replace hz0 := hide hz0) | (go_at_call 212; refine (with_c (plc [] l) (plc_asc _ _ Asc.nil') (by have := hpl0.out; omega) (-1) _ wp0 hz0.out).mono ?_; rintro ee wp ⟨vp, rfl, hz, hxp⟩; rw [← hps2.out] at hz; have hXp := hide (hX0.out.trans hxp); have hXpB := hXp.out.size; obtain ⟨P, pcap, rfl, hpc1, hpc2, hpt⟩ := zw_form hz; unfold maxLen at hpc2; replace hpt := hide hpt; have hzp := hide hz; clear hz))
  clear hm hplc
  go_loopg [7, 8] ps.length (fun gh u i wr => ∃ (k : Nat), i = .int .i64 k ∧ k + gh = ps.length ∧ OwnZ wr wp.heap.size u ((ps.take k).map vf) ∧ Ext wp wr)
  case atStart => exact ⟨0, rfl, by omega, World.ownsRow_lit (base := wp.heap.size) (e := 3) (size := 1) wp #[] 0 (Nat.le_refl _) (by decide) rfl, (Ext.refl wp).alloc _⟩
  case round =>
    obtain ⟨k, rfl, hk, ho, hXr⟩ := hrel
    have hX := hXp.out.trans hXr
    have hzX := hX.size
    have hzX2 := hXr.size
    have htl : ((ps.take k).map vf).length ≤ k := by rw [List.length_map, List.length_take]; omega
    by_cases hlt : k < ps.length
    · obtain ⟨p, hp⟩ : ∃ p, ps[k]? = some p := ⟨_, List.getElem?_eq_getElem hlt⟩
      obtain ⟨pb, po, rfl, -, hpb, c0⟩ := hpt.out k p hp
      have k0 := jcell_later hXr c0
      have hbr : pb < wr.heap.size := block_lt_of_cell k0
      haveI : In pb wr := ⟨hbr⟩
      have hnx := map_next vf hp
      have hbp := hbv.out p
      obtain ⟨C, ccap, rfl⟩ := own_form ho
      replace ho := hide ho
      have hvp := hvf.out p
      generalize vf p = x at *
      generalize (ps.take k).map vf = acc at *
      replace hnx := hide hnx
      have c0h := hide c0
      clear c0 hp
      by_cases hin : -1 < t ∧ p < t
      · obtain ⟨hin1, hin2⟩ := hin
        have hv1p := hide (hv1.out (t - 1))
        have hvx : jv l (t - 1) = x := by rw [hvp, if_pos ⟨hin1, hin2⟩]
        rw [hvx] at hv1p
        clear hvp hvx
        go_wp2_with (first | (go_at_call 210; (with_reducible refine seq_gw (hv1p.out _ hX) ?_); intro q1; have hz2 := GW.size q1) | (at_builtin; (refine wpl_app tZ rfl (.tmp 38) (.tmp 42) rfl rfl (own_ext ho.out ((q1.grown).alloc _)) rfl (src_z Tryz.underlying215 _ _ rfl x _) (by unfold maxLen; omega) (by omega) (by simp only [World.size_alloc]; omega) ?_; intro v8 w8 ho8 hg8 _)))
        go_roundg (ps.length - (k + 1))
        case measure => omega
        case rel => exact ⟨k + 1, by go_num, by omega, by rw [hnx.out]; exact own_appZ ho8, ext_grown ((hXr.trans q1.grown).alloc _) hg8 (fun q hq => (ho.out.lt q hq).1)⟩
      · have hv1p := hide (hv1.out p)
        have hvx : jv l p = x := by rw [hvp, if_neg hin]
        rw [hvx] at hv1p
        clear hvp hvx
        by_cases hin1 : -1 < t
        · have d9 : decide (p < t) = false := by rw [decide_eq_false_iff_not]; exact fun h => hin ⟨hin1, h⟩
          clear hin
          go_wp2_with (first | (go_at_call 210; (with_reducible refine seq_gw (hv1p.out _ hX) ?_); intro q1; have hz2 := GW.size q1) | (at_builtin; (refine wpl_app tZ rfl (.tmp 38) (.tmp 42) rfl rfl (own_ext ho.out ((q1.grown).alloc _)) rfl (src_z Tryz.underlying215 _ _ rfl x _) (by unfold maxLen; omega) (by omega) (by simp only [World.size_alloc]; omega) ?_; intro v8 w8 ho8 hg8 _)))
          go_roundg (ps.length - (k + 1))
          case measure => omega
          case rel => exact ⟨k + 1, by go_num, by omega, by rw [hnx.out]; exact own_appZ ho8, ext_grown ((hXr.trans q1.grown).alloc _) hg8 (fun q hq => (ho.out.lt q hq).1)⟩
        · have d9 : decide (-1 < t) = false := by rw [decide_eq_false_iff_not]; exact hin1
          clear hin hin1
          go_wp2_with (first | (go_at_call 210; (with_reducible refine seq_gw (hv1p.out _ hX) ?_); intro q1; have hz2 := GW.size q1) | (at_builtin; (refine wpl_app tZ rfl (.tmp 38) (.tmp 42) rfl rfl (own_ext ho.out ((q1.grown).alloc _)) rfl (src_z Tryz.underlying215 _ _ rfl x _) (by unfold maxLen; omega) (by omega) (by simp only [World.size_alloc]; omega) ?_; intro v8 w8 ho8 hg8 _)))
          go_roundg (ps.length - (k + 1))
          case measure => omega
          case rel => exact ⟨k + 1, by go_num, by omega, by rw [hnx.out]; exact own_appZ ho8, ext_grown ((hXr.trans q1.grown).alloc _) hg8 (fun q hq => (ho.out.lt q hq).1)⟩
    · have hk' : k = ps.length := by omega
      have hge : (ps.length : Int) ≤ k := by omega
      rw [hk', List.take_length] at ho
      have htd := hide (told_c ps vf hbv'.out hpl.out _ _ wr (Sl.ext hzp.out hXr) (own_zw ho))
      rw [← hFt.out.1, ← hFt.out.2] at htd
      obtain ⟨C, ccap, rfl⟩ := own_form ho
      rw [List.length_map] at htd ⊢
      replace hk' := hide hk'
      clear ho htl
      go_wp2_with (go_at_call 213; refine htd.out.mono ?_; rintro ee w9 ⟨v9, rfl, ho9, hx9⟩)
      go_returns
      exact ⟨_, rfl, own_base ho9 hzX, hX.trans hx9⟩
end Go.Proofs.YtobmjcehgpmfgaaGreat
