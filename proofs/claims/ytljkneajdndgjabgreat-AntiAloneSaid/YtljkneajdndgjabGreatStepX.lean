/-
  A helper of ours: no claim of its own. Layer 9 (step): the document's side: jumps put together, two at once, parts.
-/
import Derived.Test.YtljkneajdndgjabGreatStepR
import Derived.Test.YtljkneajdndgjabGreatStepD
set_option linter.unusedVariables false
set_option linter.unusedSimpArgs false
namespace Go.Proofs.YtljkneajdndgjabGreat
open Go.RowKit
attribute [local go_sem] GW.cell GW.frozen In.eq_true In.le_true In.ne In.ne' In.ne_add In.ne_add' In.lt_add Upto.le_true Upto.le_add Upto.lt_add
theorem map_next {ps : List Int} {k : Nat} {p : Int} (vf : Int → Int) (hp : ps[k]? = some p) : (ps.take (k + 1)).map vf = (ps.take k).map vf ++ [vf p] := by
  rw [take_snoc hp, List.map_append]; rfl
theorem mayJ_4096 {l : List Jp} (h : mayJ l = true) : l.length ≤ 4096 := by have := mayJ_len h; omega
theorem jv_60 {l : List Jp} (hb : ∀ j ∈ l, -1048576 ≤ j.2 ∧ j.2 ≤ 1048576) (hn : l.length ≤ 4096) (t : Int) : -4294967296 ≤ jv l t ∧ jv l t ≤ 4294967296 := by
  have := jv_small hb hn l.length t
  rwa [List.take_length] at this
set_option maxHeartbeats 8000000 in
set_option maxRecDepth 100000 in
theorem refTwoAdd_c (f g : List Jp) (vf0 vg : Value) (w : World) (hf : Jw w [] vf0 f) (hg : Jw w [] vg g) : Calls Tryz.prog 42 #[vf0, vg, .int .i64 0] w fun e w' => ∃ v', e = .returned (.tuple #[v', .int .i64 (twE addO f g)]) ∧ OwnJ w' w.heap.size v' (twR addO f g) ∧ Ext w w' := by
  have hm1 := hide (fun w' (hX : Ext w w') => refStepMay_c f vf0 w' (Sl.ext hf hX))
  have hm2 := hide (fun w' (hX : Ext w w') => refStepMay_c g vg w' (Sl.ext hg hX))
  have hX0 := hide (Ext.refl w)
  obtain ⟨E, hE⟩ : ∃ E, E = twE addO f g := ⟨_, rfl⟩
  obtain ⟨R, hR⟩ : ∃ R, R = twR addO f g := ⟨_, rfl⟩
  rw [← hE, ← hR]
  cases ha : mayJ f
  · have e1 : E = 2 := by rw [hE]; unfold twE; rw [ha]; rfl
    have e2 : R = [] := by rw [hR]; unfold twR; rw [← hE, e1, if_neg (by decide)]
    subst e1
    subst e2
    rw [ha] at hm1
    obtain ⟨A, cap, rfl, -, -, -⟩ := jw_form hf
    clear ha hE hR hf hg
    go_enter Tryz.func42, Tryz.ntmps42
    go_wp2_with (go_at_call 57; (with_reducible refine seq_gw (hm1.out _ hX0.out) ?_); intro q)
    go_returns
    exact ⟨_, rfl, World.ownsRow_nil _ _ _ _, q.grown⟩
  cases hb : mayJ g
  · have e1 : E = 2 := by rw [hE]; unfold twE; rw [ha, hb]; rfl
    have e2 : R = [] := by rw [hR]; unfold twR; rw [← hE, e1, if_neg (by decide)]
    subst e1
    subst e2
    rw [ha] at hm1
    rw [hb] at hm2
    obtain ⟨A, cap, rfl, -, -, -⟩ := jw_form hf
    obtain ⟨A2, cap2, rfl, -, -, -⟩ := jw_form hg
    clear ha hb hE hR hf hg
    go_enter Tryz.func42, Tryz.ntmps42
    go_wp2_with (first | (go_at_call 57; (with_reducible refine seq_gw (hm1.out _ hX0.out) ?_); intro q) | (go_at_call 57; (with_reducible refine seq_gw' (hm2.out _ q.grown) ?_); intro q2))
    go_returns
    exact ⟨_, rfl, World.ownsRow_nil _ _ _ _, q2.grown⟩
  obtain ⟨vf, hvfe⟩ : ∃ vf : Int → Int, vf = opv addO f g := ⟨_, rfl⟩
  obtain ⟨ps, hpse⟩ : ∃ ps, ps = plc (plc [] f) g := ⟨_, rfl⟩
  have hFt : Hid (E = full (tell vf ps 0) ∧ R = kept (tell vf ps 0)) := by
    show _ ∧ _
    rw [hE, hR, hvfe, hpse]
    have e : twE addO f g = full (opd addO f g) := by unfold twE; rw [ha, hb]; rfl
    refine ⟨e, ?_⟩
    unfold twR
    rw [e]
    show (if full (opd addO f g) = 0 then opd addO f g else []) = kept (opd addO f g)
    unfold full kept
    cases mayJ (opd addO f g) <;> rfl
  have hb1 := hide (fun p => mayJ_jv ha p)
  have hb2 := hide (fun p => mayJ_jv hb p)
  have hvf : Hid (∀ p, vf p = addO (jv f p) (jv g p)) := fun p => by rw [hvfe]; rfl
  have hbv : Hid (∀ p, -1152921504606846976 ≤ vf p ∧ vf p ≤ 1152921504606846976) := fun p => by rw [hvf.out p]; exact small_add _ _ (hb1.out p) (hb2.out p)
  have hbv' : Hid (∀ p ∈ ps, -1152921504606846976 ≤ vf p ∧ vf p ≤ 1152921504606846976) := fun p _ => hbv.out p
  have hpl : Hid (ps.length ≤ 4096) := by show _ ≤ _; rw [hpse]; have := places_len f g; have := mayJ_len ha; have := mayJ_len hb; omega
  have hpI : (ps.length : Int) ≤ 4096 := by have := hpl.out; omega
  have hv1 := hide (fun p w' (hX : Ext w w') => refValue_c f (mayJ_net ha) (mayJ_4096 ha) p vf0 w' (Sl.ext hf hX))
  have hv2 := hide (fun p w' (hX : Ext w w') => refValue_c g (mayJ_net hb) (mayJ_4096 hb) p vg w' (Sl.ext hg hX))
  have hplc := hide (fun w' (hX : Ext w w') => places_c f g (mayJ_len ha) (mayJ_len hb) vf0 vg w' (Sl.ext hf hX) (Sl.ext hg hX))
  rw [← hpse] at hplc
  rw [ha] at hm1
  rw [hb] at hm2
  obtain ⟨A, cap, rfl, -, -, -⟩ := jw_form hf
  obtain ⟨A2, cap2, rfl, -, -, -⟩ := jw_form hg
  clear ha hb hE hR hf hg hpse hvfe
  go_enter Tryz.func42, Tryz.ntmps42
  go_wp2_with (first | (go_at_call 57; (with_reducible refine seq_gw (hm1.out _ hX0.out) ?_); intro q) | (go_at_call 57; (with_reducible refine seq_gw' (hm2.out _ q.grown) ?_); intro q2) | (go_at_call 85; refine (hplc.out _ q2.grown).mono ?_; rintro ee wp ⟨vp, rfl, hz, hxp⟩; have hXp := hide (q2.grown.trans hxp); have hXpB := hXp.out.size; obtain ⟨P, pcap, rfl, hpc1, hpc2, hpt⟩ := zw_form hz; unfold maxLen at hpc2; replace hpt := hide hpt; have hzp := hide hz; clear hz))
  clear hm1 hm2 hplc
  go_loopg [9, 10] ps.length (fun gh u i wr => ∃ (k : Nat), i = .int .i64 k ∧ k + gh = ps.length ∧ OwnZ wr wp.heap.size u ((ps.take k).map vf) ∧ Ext wp wr)
  case atStart => exact ⟨0, rfl, by omega, World.ownsRow_lit (base := wp.heap.size) (e := 3) (size := 1) wp #[] 0 (Nat.le_refl _) (by decide) rfl, (Ext.refl wp).alloc _⟩
  case round =>
    obtain ⟨k, rfl, hk, ho, hXr⟩ := hrel
    have hX := hXp.out.trans hXr
    have hzX := hX.size
    have hzX2 := hXr.size
    have htl : ((ps.take k).map vf).length ≤ k := by rw [List.length_map, List.length_take]; omega
    by_cases hlt : k < ps.length
    · obtain ⟨p, hp⟩ : ∃ p, ps[k]? = some p := ⟨_, List.getElem?_eq_getElem hlt⟩
      obtain ⟨pb, po, rfl, -, hpb, c0⟩ := hpt.out k p hp
      have k0 := jcell_later hXr c0
      have hbr : pb < wr.heap.size := block_lt_of_cell k0
      haveI : In pb wr := ⟨hbr⟩
      have hnx := map_next vf hp
      have hbp := hbv.out p
      obtain ⟨C, ccap, rfl⟩ := own_form ho
      replace ho := hide ho
      have hvp := hvf.out p
      generalize vf p = x at *
      generalize (ps.take k).map vf = acc at *
      replace hnx := hide hnx
      have c0h := hide c0
      clear c0 hp
      obtain ⟨a1, a2⟩ := hb1.out p
      obtain ⟨b1, b2⟩ := hb2.out p
      have hv1p := hide (hv1.out p)
      have hv2p := hide (hv2.out p)
      generalize jv f p = a at *
      generalize jv g p = b at *
      have hvx : x = a + b := hvp
      clear hvp
      subst hvx
      go_wp2_with (first | (go_at_call 18; (with_reducible refine seq_gw (hv1p.out _ hX) ?_); intro q1) | (go_at_call 18; (with_reducible refine seq_gw' (hv2p.out _ (hX.trans q1.grown)) ?_); intro q2; have hz2 := GW.size q2) | (at_builtin; (refine wpl_app tZ rfl (.tmp 57) (.tmp 59) rfl rfl (own_ext ho.out ((q2.grown).alloc _)) rfl (src_z Tryz.underlying111 _ _ rfl (a + b) _) (by unfold maxLen; omega) (by omega) (by simp only [World.size_alloc]; omega) ?_; intro v8 w8 ho8 hg8 _)))
      go_roundg (ps.length - (k + 1))
      case measure => omega
      case rel => exact ⟨k + 1, by go_num, by omega, by rw [hnx.out]; exact own_appZ ho8, ext_grown ((hXr.trans q2.grown).alloc _) hg8 (fun q hq => (ho.out.lt q hq).1)⟩
    · have hk' : k = ps.length := by omega
      have hge : (ps.length : Int) ≤ k := by omega
      rw [hk', List.take_length] at ho
      have htd := hide (told_c ps vf hbv'.out hpl.out _ _ wr (Sl.ext hzp.out hXr) (own_zw ho))
      rw [← hFt.out.1, ← hFt.out.2] at htd
      obtain ⟨C, ccap, rfl⟩ := own_form ho
      rw [List.length_map] at htd ⊢
      replace hk' := hide hk'
      clear ho htl
      go_wp2_with (go_at_call 86; refine htd.out.mono ?_; rintro ee w9 ⟨v9, rfl, ho9, hx9⟩)
      go_returns
      exact ⟨_, rfl, own_base ho9 hzX, hX.trans hx9⟩
set_option maxHeartbeats 8000000 in
set_option maxRecDepth 100000 in
theorem refTwoMul_c (f g : List Jp) (vf0 vg : Value) (w : World) (hf : Jw w [] vf0 f) (hg : Jw w [] vg g) : Calls Tryz.prog 42 #[vf0, vg, .int .i64 1] w fun e w' => ∃ v', e = .returned (.tuple #[v', .int .i64 (twE mulO f g)]) ∧ OwnJ w' w.heap.size v' (twR mulO f g) ∧ Ext w w' := by
  have hm1 := hide (fun w' (hX : Ext w w') => refStepMay_c f vf0 w' (Sl.ext hf hX))
  have hm2 := hide (fun w' (hX : Ext w w') => refStepMay_c g vg w' (Sl.ext hg hX))
  have hX0 := hide (Ext.refl w)
  obtain ⟨E, hE⟩ : ∃ E, E = twE mulO f g := ⟨_, rfl⟩
  obtain ⟨R, hR⟩ : ∃ R, R = twR mulO f g := ⟨_, rfl⟩
  rw [← hE, ← hR]
  cases ha : mayJ f
  · have e1 : E = 2 := by rw [hE]; unfold twE; rw [ha]; rfl
    have e2 : R = [] := by rw [hR]; unfold twR; rw [← hE, e1, if_neg (by decide)]
    subst e1
    subst e2
    rw [ha] at hm1
    obtain ⟨A, cap, rfl, -, -, -⟩ := jw_form hf
    clear ha hE hR hf hg
    go_enter Tryz.func42, Tryz.ntmps42
    go_wp2_with (go_at_call 57; (with_reducible refine seq_gw (hm1.out _ hX0.out) ?_); intro q)
    go_returns
    exact ⟨_, rfl, World.ownsRow_nil _ _ _ _, q.grown⟩
  cases hb : mayJ g
  · have e1 : E = 2 := by rw [hE]; unfold twE; rw [ha, hb]; rfl
    have e2 : R = [] := by rw [hR]; unfold twR; rw [← hE, e1, if_neg (by decide)]
    subst e1
    subst e2
    rw [ha] at hm1
    rw [hb] at hm2
    obtain ⟨A, cap, rfl, -, -, -⟩ := jw_form hf
    obtain ⟨A2, cap2, rfl, -, -, -⟩ := jw_form hg
    clear ha hb hE hR hf hg
    go_enter Tryz.func42, Tryz.ntmps42
    go_wp2_with (first | (go_at_call 57; (with_reducible refine seq_gw (hm1.out _ hX0.out) ?_); intro q) | (go_at_call 57; (with_reducible refine seq_gw' (hm2.out _ q.grown) ?_); intro q2))
    go_returns
    exact ⟨_, rfl, World.ownsRow_nil _ _ _ _, q2.grown⟩
  obtain ⟨vf, hvfe⟩ : ∃ vf : Int → Int, vf = opv mulO f g := ⟨_, rfl⟩
  obtain ⟨ps, hpse⟩ : ∃ ps, ps = plc (plc [] f) g := ⟨_, rfl⟩
  have hFt : Hid (E = full (tell vf ps 0) ∧ R = kept (tell vf ps 0)) := by
    show _ ∧ _
    rw [hE, hR, hvfe, hpse]
    have e : twE mulO f g = full (opd mulO f g) := by unfold twE; rw [ha, hb]; rfl
    refine ⟨e, ?_⟩
    unfold twR
    rw [e]
    show (if full (opd mulO f g) = 0 then opd mulO f g else []) = kept (opd mulO f g)
    unfold full kept
    cases mayJ (opd mulO f g) <;> rfl
  have hb1 := hide (fun p => mayJ_jv ha p)
  have hb2 := hide (fun p => mayJ_jv hb p)
  have hvf : Hid (∀ p, vf p = mulO (jv f p) (jv g p)) := fun p => by rw [hvfe]; rfl
  have hbv : Hid (∀ p, -1152921504606846976 ≤ vf p ∧ vf p ≤ 1152921504606846976) := fun p => by rw [hvf.out p]; exact small_mul _ _ (hb1.out p) (hb2.out p)
  have hbv' : Hid (∀ p ∈ ps, -1152921504606846976 ≤ vf p ∧ vf p ≤ 1152921504606846976) := fun p _ => hbv.out p
  have hpl : Hid (ps.length ≤ 4096) := by show _ ≤ _; rw [hpse]; have := places_len f g; have := mayJ_len ha; have := mayJ_len hb; omega
  have hpI : (ps.length : Int) ≤ 4096 := by have := hpl.out; omega
  have hv1 := hide (fun p w' (hX : Ext w w') => refValue_c f (mayJ_net ha) (mayJ_4096 ha) p vf0 w' (Sl.ext hf hX))
  have hv2 := hide (fun p w' (hX : Ext w w') => refValue_c g (mayJ_net hb) (mayJ_4096 hb) p vg w' (Sl.ext hg hX))
  have hplc := hide (fun w' (hX : Ext w w') => places_c f g (mayJ_len ha) (mayJ_len hb) vf0 vg w' (Sl.ext hf hX) (Sl.ext hg hX))
  rw [← hpse] at hplc
  rw [ha] at hm1
  rw [hb] at hm2
  obtain ⟨A, cap, rfl, -, -, -⟩ := jw_form hf
  obtain ⟨A2, cap2, rfl, -, -, -⟩ := jw_form hg
  clear ha hb hE hR hf hg hpse hvfe
  go_enter Tryz.func42, Tryz.ntmps42
  go_wp2_with (first | (go_at_call 57; (with_reducible refine seq_gw (hm1.out _ hX0.out) ?_); intro q) | (go_at_call 57; (with_reducible refine seq_gw' (hm2.out _ q.grown) ?_); intro q2) | (go_at_call 85; refine (hplc.out _ q2.grown).mono ?_; rintro ee wp ⟨vp, rfl, hz, hxp⟩; have hXp := hide (q2.grown.trans hxp); have hXpB := hXp.out.size; obtain ⟨P, pcap, rfl, hpc1, hpc2, hpt⟩ := zw_form hz; unfold maxLen at hpc2; replace hpt := hide hpt; have hzp := hide hz; clear hz))
  clear hm1 hm2 hplc
  go_loopg [9, 10] ps.length (fun gh u i wr => ∃ (k : Nat), i = .int .i64 k ∧ k + gh = ps.length ∧ OwnZ wr wp.heap.size u ((ps.take k).map vf) ∧ Ext wp wr)
  case atStart => exact ⟨0, rfl, by omega, World.ownsRow_lit (base := wp.heap.size) (e := 3) (size := 1) wp #[] 0 (Nat.le_refl _) (by decide) rfl, (Ext.refl wp).alloc _⟩
  case round =>
    obtain ⟨k, rfl, hk, ho, hXr⟩ := hrel
    have hX := hXp.out.trans hXr
    have hzX := hX.size
    have hzX2 := hXr.size
    have htl : ((ps.take k).map vf).length ≤ k := by rw [List.length_map, List.length_take]; omega
    by_cases hlt : k < ps.length
    · obtain ⟨p, hp⟩ : ∃ p, ps[k]? = some p := ⟨_, List.getElem?_eq_getElem hlt⟩
      obtain ⟨pb, po, rfl, -, hpb, c0⟩ := hpt.out k p hp
      have k0 := jcell_later hXr c0
      have hbr : pb < wr.heap.size := block_lt_of_cell k0
      haveI : In pb wr := ⟨hbr⟩
      have hnx := map_next vf hp
      have hbp := hbv.out p
      obtain ⟨C, ccap, rfl⟩ := own_form ho
      replace ho := hide ho
      have hvp := hvf.out p
      generalize vf p = x at *
      generalize (ps.take k).map vf = acc at *
      replace hnx := hide hnx
      have c0h := hide c0
      clear c0 hp
      obtain ⟨a1, a2⟩ := hb1.out p
      obtain ⟨b1, b2⟩ := hb2.out p
      have hv1p := hide (hv1.out p)
      have hv2p := hide (hv2.out p)
      generalize jv f p = a at *
      generalize jv g p = b at *
      obtain ⟨m1, m2⟩ := mul_small ⟨a1, a2⟩ ⟨b1, b2⟩
      have hw : IntKind.i64.wrap (a * b) = a * b := by
        generalize a * b = y at *
        simp [IntKind.wrap, IntKind.bits, IntKind.signed]; omega
      have hvx : x = a * b := hvp
      clear hvp
      subst hvx
      go_wp2_with (first | (go_at_call 18; (with_reducible refine seq_gw (hv1p.out _ hX) ?_); intro q1) | (go_at_call 18; (with_reducible refine seq_gw' (hv2p.out _ (hX.trans q1.grown)) ?_); intro q2; have hz2 := GW.size q2) | (at_builtin; (refine wpl_app tZ rfl (.tmp 57) (.tmp 59) rfl rfl (own_ext ho.out ((q2.grown).alloc _)) rfl (src_z Tryz.underlying111 _ _ rfl (a * b) _) (by unfold maxLen; omega) (by omega) (by simp only [World.size_alloc]; omega) ?_; intro v8 w8 ho8 hg8 _)))
      go_roundg (ps.length - (k + 1))
      case measure => omega
      case rel => exact ⟨k + 1, by go_num, by omega, by rw [hnx.out]; exact own_appZ ho8, ext_grown ((hXr.trans q2.grown).alloc _) hg8 (fun q hq => (ho.out.lt q hq).1)⟩
    · have hk' : k = ps.length := by omega
      have hge : (ps.length : Int) ≤ k := by omega
      rw [hk', List.take_length] at ho
      have htd := hide (told_c ps vf hbv'.out hpl.out _ _ wr (Sl.ext hzp.out hXr) (own_zw ho))
      rw [← hFt.out.1, ← hFt.out.2] at htd
      obtain ⟨C, ccap, rfl⟩ := own_form ho
      rw [List.length_map] at htd ⊢
      replace hk' := hide hk'
      clear ho htl
      go_wp2_with (go_at_call 86; refine htd.out.mono ?_; rintro ee w9 ⟨v9, rfl, ho9, hx9⟩)
      go_returns
      exact ⟨_, rfl, own_base ho9 hzX, hX.trans hx9⟩
set_option maxHeartbeats 8000000 in
set_option maxRecDepth 100000 in
theorem refTwoWh_c (f g : List Jp) (vf0 vg : Value) (w : World) (hf : Jw w [] vf0 f) (hg : Jw w [] vg g) : Calls Tryz.prog 42 #[vf0, vg, .int .i64 2] w fun e w' => ∃ v', e = .returned (.tuple #[v', .int .i64 (twE whO f g)]) ∧ OwnJ w' w.heap.size v' (twR whO f g) ∧ Ext w w' := by
  have hm1 := hide (fun w' (hX : Ext w w') => refStepMay_c f vf0 w' (Sl.ext hf hX))
  have hm2 := hide (fun w' (hX : Ext w w') => refStepMay_c g vg w' (Sl.ext hg hX))
  have hX0 := hide (Ext.refl w)
  obtain ⟨E, hE⟩ : ∃ E, E = twE whO f g := ⟨_, rfl⟩
  obtain ⟨R, hR⟩ : ∃ R, R = twR whO f g := ⟨_, rfl⟩
  rw [← hE, ← hR]
  cases ha : mayJ f
  · have e1 : E = 2 := by rw [hE]; unfold twE; rw [ha]; rfl
    have e2 : R = [] := by rw [hR]; unfold twR; rw [← hE, e1, if_neg (by decide)]
    subst e1
    subst e2
    rw [ha] at hm1
    obtain ⟨A, cap, rfl, -, -, -⟩ := jw_form hf
    clear ha hE hR hf hg
    go_enter Tryz.func42, Tryz.ntmps42
    go_wp2_with (go_at_call 57; (with_reducible refine seq_gw (hm1.out _ hX0.out) ?_); intro q)
    go_returns
    exact ⟨_, rfl, World.ownsRow_nil _ _ _ _, q.grown⟩
  cases hb : mayJ g
  · have e1 : E = 2 := by rw [hE]; unfold twE; rw [ha, hb]; rfl
    have e2 : R = [] := by rw [hR]; unfold twR; rw [← hE, e1, if_neg (by decide)]
    subst e1
    subst e2
    rw [ha] at hm1
    rw [hb] at hm2
    obtain ⟨A, cap, rfl, -, -, -⟩ := jw_form hf
    obtain ⟨A2, cap2, rfl, -, -, -⟩ := jw_form hg
    clear ha hb hE hR hf hg
    go_enter Tryz.func42, Tryz.ntmps42
    go_wp2_with (first | (go_at_call 57; (with_reducible refine seq_gw (hm1.out _ hX0.out) ?_); intro q) | (go_at_call 57; (with_reducible refine seq_gw' (hm2.out _ q.grown) ?_); intro q2))
    go_returns
    exact ⟨_, rfl, World.ownsRow_nil _ _ _ _, q2.grown⟩
  obtain ⟨vf, hvfe⟩ : ∃ vf : Int → Int, vf = opv whO f g := ⟨_, rfl⟩
  obtain ⟨ps, hpse⟩ : ∃ ps, ps = plc (plc [] f) g := ⟨_, rfl⟩
  have hFt : Hid (E = full (tell vf ps 0) ∧ R = kept (tell vf ps 0)) := by
    show _ ∧ _
    rw [hE, hR, hvfe, hpse]
    have e : twE whO f g = full (opd whO f g) := by unfold twE; rw [ha, hb]; rfl
    refine ⟨e, ?_⟩
    unfold twR
    rw [e]
    show (if full (opd whO f g) = 0 then opd whO f g else []) = kept (opd whO f g)
    unfold full kept
    cases mayJ (opd whO f g) <;> rfl
  have hb1 := hide (fun p => mayJ_jv ha p)
  have hb2 := hide (fun p => mayJ_jv hb p)
  have hvf : Hid (∀ p, vf p = whO (jv f p) (jv g p)) := fun p => by rw [hvfe]; rfl
  have hbv : Hid (∀ p, -1152921504606846976 ≤ vf p ∧ vf p ≤ 1152921504606846976) := fun p => by rw [hvf.out p]; exact small_wh _ _ (hb1.out p) (hb2.out p)
  have hbv' : Hid (∀ p ∈ ps, -1152921504606846976 ≤ vf p ∧ vf p ≤ 1152921504606846976) := fun p _ => hbv.out p
  have hpl : Hid (ps.length ≤ 4096) := by show _ ≤ _; rw [hpse]; have := places_len f g; have := mayJ_len ha; have := mayJ_len hb; omega
  have hpI : (ps.length : Int) ≤ 4096 := by have := hpl.out; omega
  have hv1 := hide (fun p w' (hX : Ext w w') => refValue_c f (mayJ_net ha) (mayJ_4096 ha) p vf0 w' (Sl.ext hf hX))
  have hv2 := hide (fun p w' (hX : Ext w w') => refValue_c g (mayJ_net hb) (mayJ_4096 hb) p vg w' (Sl.ext hg hX))
  have hplc := hide (fun w' (hX : Ext w w') => places_c f g (mayJ_len ha) (mayJ_len hb) vf0 vg w' (Sl.ext hf hX) (Sl.ext hg hX))
  rw [← hpse] at hplc
  rw [ha] at hm1
  rw [hb] at hm2
  obtain ⟨A, cap, rfl, -, -, -⟩ := jw_form hf
  obtain ⟨A2, cap2, rfl, -, -, -⟩ := jw_form hg
  clear ha hb hE hR hf hg hpse hvfe
  go_enter Tryz.func42, Tryz.ntmps42
  go_wp2_with (first | (go_at_call 57; (with_reducible refine seq_gw (hm1.out _ hX0.out) ?_); intro q) | (go_at_call 57; (with_reducible refine seq_gw' (hm2.out _ q.grown) ?_); intro q2) | (go_at_call 85; refine (hplc.out _ q2.grown).mono ?_; rintro ee wp ⟨vp, rfl, hz, hxp⟩; have hXp := hide (q2.grown.trans hxp); have hXpB := hXp.out.size; obtain ⟨P, pcap, rfl, hpc1, hpc2, hpt⟩ := zw_form hz; unfold maxLen at hpc2; replace hpt := hide hpt; have hzp := hide hz; clear hz))
  clear hm1 hm2 hplc
  go_loopg [9, 10] ps.length (fun gh u i wr => ∃ (k : Nat), i = .int .i64 k ∧ k + gh = ps.length ∧ OwnZ wr wp.heap.size u ((ps.take k).map vf) ∧ Ext wp wr)
  case atStart => exact ⟨0, rfl, by omega, World.ownsRow_lit (base := wp.heap.size) (e := 3) (size := 1) wp #[] 0 (Nat.le_refl _) (by decide) rfl, (Ext.refl wp).alloc _⟩
  case round =>
    obtain ⟨k, rfl, hk, ho, hXr⟩ := hrel
    have hX := hXp.out.trans hXr
    have hzX := hX.size
    have hzX2 := hXr.size
    have htl : ((ps.take k).map vf).length ≤ k := by rw [List.length_map, List.length_take]; omega
    by_cases hlt : k < ps.length
    · obtain ⟨p, hp⟩ : ∃ p, ps[k]? = some p := ⟨_, List.getElem?_eq_getElem hlt⟩
      obtain ⟨pb, po, rfl, -, hpb, c0⟩ := hpt.out k p hp
      have k0 := jcell_later hXr c0
      have hbr : pb < wr.heap.size := block_lt_of_cell k0
      haveI : In pb wr := ⟨hbr⟩
      have hnx := map_next vf hp
      have hbp := hbv.out p
      obtain ⟨C, ccap, rfl⟩ := own_form ho
      replace ho := hide ho
      have hvp := hvf.out p
      generalize vf p = x at *
      generalize (ps.take k).map vf = acc at *
      replace hnx := hide hnx
      have c0h := hide c0
      clear c0 hp
      obtain ⟨a1, a2⟩ := hb1.out p
      obtain ⟨b1, b2⟩ := hb2.out p
      have hv1p := hide (hv1.out p)
      have hv2p := hide (hv2.out p)
      generalize jv f p = a at *
      generalize jv g p = b at *
      by_cases hb0 : b = 0
      · subst hb0
        have hvx : x = a := hvp.trans (if_pos rfl)
        clear hvp
        subst hvx
        go_wp2_with (first | (go_at_call 18; (with_reducible refine seq_gw (hv1p.out _ hX) ?_); intro q1) | (go_at_call 18; (with_reducible refine seq_gw' (hv2p.out _ (hX.trans q1.grown)) ?_); intro q2; have hz2 := GW.size q2) | (at_builtin; (refine wpl_app tZ rfl (.tmp 57) (.tmp 59) rfl rfl (own_ext ho.out ((q2.grown).alloc _)) rfl (src_z Tryz.underlying111 _ _ rfl x _) (by unfold maxLen; omega) (by omega) (by simp only [World.size_alloc]; omega) ?_; intro v8 w8 ho8 hg8 _)))
        go_roundg (ps.length - (k + 1))
        case measure => omega
        case rel => exact ⟨k + 1, by go_num, by omega, by rw [hnx.out]; exact own_appZ ho8, ext_grown ((hXr.trans q2.grown).alloc _) hg8 (fun q hq => (ho.out.lt q hq).1)⟩
      · have hbb : (b != 0) = true := by simp [hb0]
        have hvx : x = 0 := hvp.trans (if_neg hb0)
        clear hvp
        subst hvx
        replace hb0 := hide hb0
        go_wp2_with (first | (go_at_call 18; (with_reducible refine seq_gw (hv1p.out _ hX) ?_); intro q1) | (go_at_call 18; (with_reducible refine seq_gw' (hv2p.out _ (hX.trans q1.grown)) ?_); intro q2; have hz2 := GW.size q2) | (at_builtin; (refine wpl_app tZ rfl (.tmp 57) (.tmp 59) rfl rfl (own_ext ho.out ((q2.grown).alloc _)) rfl (src_z Tryz.underlying111 _ _ rfl 0 _) (by unfold maxLen; omega) (by omega) (by simp only [World.size_alloc]; omega) ?_; intro v8 w8 ho8 hg8 _)))
        go_roundg (ps.length - (k + 1))
        case measure => omega
        case rel => exact ⟨k + 1, by go_num, by omega, by rw [hnx.out]; exact own_appZ ho8, ext_grown ((hXr.trans q2.grown).alloc _) hg8 (fun q hq => (ho.out.lt q hq).1)⟩
    · have hk' : k = ps.length := by omega
      have hge : (ps.length : Int) ≤ k := by omega
      rw [hk', List.take_length] at ho
      have htd := hide (told_c ps vf hbv'.out hpl.out _ _ wr (Sl.ext hzp.out hXr) (own_zw ho))
      rw [← hFt.out.1, ← hFt.out.2] at htd
      obtain ⟨C, ccap, rfl⟩ := own_form ho
      rw [List.length_map] at htd ⊢
      replace hk' := hide hk'
      clear ho htl
      go_wp2_with (go_at_call 86; refine htd.out.mono ?_; rintro ee w9 ⟨v9, rfl, ho9, hx9⟩)
      go_returns
      exact ⟨_, rfl, own_base ho9 hzX, hX.trans hx9⟩
end Go.Proofs.YtljkneajdndgjabGreat
