/-
  A helper of ours: no claim of its own. Layer 10 (edge), lists only: a row put into rows that rise, at the place where it belongs.
-/
import Derived.Test.YtljkneajdndgjabGreatStepE
import Derived.Lib.AppendZerosOnto
import Derived.Lib.LazyBuf
import Derived.WalkLawsBesides
import Derived.Laws.FloatArith
import Derived.Laws.ComplexArith
import Derived.Test.YtljkneajdndgjabGreatRows
import Derived.Test.YtljkneajdndgjabGreatGw
import Derived.Handy
import Derived.Test.YtljkneajdndgjabGreatStepR
import Derived.Test.YtljkneajdndgjabGreatStepD
import Derived.Test.YtljkneajdndgjabGreatEdgS
set_option linter.unusedVariables false
set_option linter.unusedSimpArgs false
namespace Go.Proofs.YtljkneajdndgjabGreat
open Go.RowKit
attribute [local go_sem] GW.cell GW.frozen In.eq_true In.le_true In.ne In.ne' In.ne_add In.ne_add' In.lt_add Upto.le_true Upto.le_add Upto.lt_add
end Go.Proofs.YtljkneajdndgjabGreat
set_option linter.unusedVariables false
namespace Go.Proofs.YtljkneajdndgjabGreat.Floats
open Ieee

end Go.Proofs.YtljkneajdndgjabGreat.Floats
set_option linter.unusedVariables false
set_option linter.unusedSimpArgs false
namespace Go.Proofs.YtljkneajdndgjabGreat
open Go.RowKit
attribute [local go_sem] GW.cell GW.frozen In.eq_true In.le_true In.ne In.ne' In.ne_add In.ne_add' In.lt_add Upto.le_true Upto.le_add Upto.lt_add


end Go.Proofs.YtljkneajdndgjabGreat
set_option linter.unusedVariables false
set_option linter.unusedSimpArgs false
namespace Go.Proofs.YtljkneajdndgjabGreat
open Go.RowKit
attribute [local go_sem] GW.cell GW.frozen In.eq_true In.le_true In.ne In.ne' In.ne_add In.ne_add' In.lt_add Upto.le_true Upto.le_add Upto.lt_add
theorem map_next {ps : List Int} {k : Nat} {p : Int} (vf : Int → Int) (hp : ps[k]? = some p) : (ps.take (k + 1)).map vf = (ps.take k).map vf ++ [vf p] := by
  rw [take_snoc hp, List.map_append]; rfl
theorem mayJ_4096 {l : List Jp} (h : mayJ l = true) : l.length ≤ 4096 := by have := mayJ_len h; omega
set_option maxHeartbeats 8000000 in
set_option maxRecDepth 100000 in
theorem refTwoAdd_c (f g : List Jp) (vf0 vg : Value) (w : World) (hf : Jw w [] vf0 f) (hg : Jw w [] vg g) : Calls Tryz.prog 42 #[vf0, vg, .int .i64 0] w fun e w' => ∃ v', e = .returned (.tuple #[v', .int .i64 (twE addO f g)]) ∧ OwnJ w' w.heap.size v' (twR addO f g) ∧ Ext w w' := by
  have hm1 := hide (fun w' (hX : Ext w w') => refStepMay_c f vf0 w' (Sl.ext hf hX))
  have hm2 := hide (fun w' (hX : Ext w w') => refStepMay_c g vg w' (Sl.ext hg hX))
  have hX0 := hide (Ext.refl w)
  obtain ⟨E, hE⟩ : ∃ E, E = twE addO f g := ⟨_, rfl⟩
  obtain ⟨R, hR⟩ : ∃ R, R = twR addO f g := ⟨_, rfl⟩
  rw [← hE, ← hR]
  cases ha : mayJ f
  · have e1 : E = 2 := by rw [hE]; unfold twE; rw [ha]; rfl
    have e2 : R = [] := by rw [hR]; unfold twR; rw [← hE, e1, if_neg (by decide)]
    subst e1
    subst e2
    rw [ha] at hm1
    obtain ⟨A, cap, rfl, -, -, -⟩ := jw_form hf
    clear ha hE hR hf hg
    go_enter Tryz.func42, Tryz.ntmps42
    go_wp2_with (go_at_call 57; (with_reducible refine seq_gw (hm1.out _ hX0.out) ?_); intro q)
    go_returns
    exact ⟨_, rfl, World.ownsRow_nil _ _ _ _, q.grown⟩
  cases hb : mayJ g
  · have e1 : E = 2 := by rw [hE]; unfold twE; rw [ha, hb]; rfl
    have e2 : R = [] := by rw [hR]; unfold twR; rw [← hE, e1, if_neg (by decide)]
    subst e1
    subst e2
    rw [ha] at hm1
    rw [hb] at hm2
    obtain ⟨A, cap, rfl, -, -, -⟩ := jw_form hf
    obtain ⟨A2, cap2, rfl, -, -, -⟩ := jw_form hg
    clear ha hb hE hR hf hg
    go_enter Tryz.func42, Tryz.ntmps42
    go_wp2_with (first | (go_at_call 57; (with_reducible refine seq_gw (hm1.out _ hX0.out) ?_); intro q) | (go_at_call 57; (with_reducible refine seq_gw' (hm2.out _ q.grown) ?_); intro q2))
    go_returns
    exact ⟨_, rfl, World.ownsRow_nil _ _ _ _, q2.grown⟩
  obtain ⟨vf, hvfe⟩ : ∃ vf : Int → Int, vf = opv addO f g := ⟨_, rfl⟩
  obtain ⟨ps, hpse⟩ : ∃ ps, ps = plc (plc [] f) g := ⟨_, rfl⟩
  have hFt : Hid (E = full (tell vf ps 0) ∧ R = kept (tell vf ps 0)) := by
    show _ ∧ _
    rw [hE, hR, hvfe, hpse]
    have e : twE addO f g = full (opd addO f g) := by unfold twE; rw [ha, hb]; rfl
    refine ⟨e, ?_⟩
    unfold twR
    rw [e]
    show (if full (opd addO f g) = 0 then opd addO f g else []) = kept (opd addO f g)
    unfold full kept
    cases mayJ (opd addO f g) <;> rfl
  have hb1 := hide (fun p => mayJ_jv ha p)
  have hb2 := hide (fun p => mayJ_jv hb p)
  have hvf : Hid (∀ p, vf p = addO (jv f p) (jv g p)) := fun p => by rw [hvfe]; rfl
  have hbv : Hid (∀ p, -1152921504606846976 ≤ vf p ∧ vf p ≤ 1152921504606846976) := fun p => by rw [hvf.out p]; exact small_add _ _ (hb1.out p) (hb2.out p)
  have hbv' : Hid (∀ p ∈ ps, -1152921504606846976 ≤ vf p ∧ vf p ≤ 1152921504606846976) := fun p _ => hbv.out p
  have hpl : Hid (ps.length ≤ 4096) := by show _ ≤ _; rw [hpse]; have := places_len f g; have := mayJ_len ha; have := mayJ_len hb; omega
  have hpI : (ps.length : Int) ≤ 4096 := by have := hpl.out; omega
  have hv1 := hide (fun p w' (hX : Ext w w') => refValue_c f (mayJ_net ha) (mayJ_4096 ha) p vf0 w' (Sl.ext hf hX))
  have hv2 := hide (fun p w' (hX : Ext w w') => refValue_c g (mayJ_net hb) (mayJ_4096 hb) p vg w' (Sl.ext hg hX))
  have hplc := hide (fun w' (hX : Ext w w') => places_c f g (mayJ_len ha) (mayJ_len hb) vf0 vg w' (Sl.ext hf hX) (Sl.ext hg hX))
  rw [← hpse] at hplc
  rw [ha] at hm1
  rw [hb] at hm2
  obtain ⟨A, cap, rfl, -, -, -⟩ := jw_form hf
  obtain ⟨A2, cap2, rfl, -, -, -⟩ := jw_form hg
  clear ha hb hE hR hf hg hpse hvfe
  go_enter Tryz.func42, Tryz.ntmps42
  go_wp2_with (first | (go_at_call 57; (with_reducible refine seq_gw (hm1.out _ hX0.out) ?_); intro q) | (go_at_call 57; (with_reducible refine seq_gw' (hm2.out _ q.grown) ?_); intro q2) | (go_at_call 85; refine (hplc.out _ q2.grown).mono ?_; rintro ee wp ⟨vp, rfl, hz, hxp⟩; have hXp := hide (q2.grown.trans hxp); have hXpB := hXp.out.size; obtain ⟨P, pcap, rfl, hpc1, hpc2, hpt⟩ := zw_form hz; unfold maxLen at hpc2; replace hpt := hide hpt; have hzp := hide hz; clear hz))
  clear hm1 hm2 hplc
  go_loopg [9, 10] ps.length (fun gh u i wr => ∃ (k : Nat), i = .int .i64 k ∧ k + gh = ps.length ∧ OwnZ wr wp.heap.size u ((ps.take k).map vf) ∧ Ext wp wr)
  case atStart => exact ⟨0, rfl, by omega, World.ownsRow_lit (base := wp.heap.size) (e := 3) (size := 1) wp #[] 0 (Nat.le_refl _) (by decide) rfl, (Ext.refl wp).alloc _⟩
  case round =>
    obtain ⟨k, rfl, hk, ho, hXr⟩ := hrel
    have hX := hXp.out.trans hXr
    have hzX := hX.size
    have hzX2 := hXr.size
    have htl : ((ps.take k).map vf).length ≤ k := by rw [List.length_map, List.length_take]; omega
    by_cases hlt : k < ps.length
    · obtain ⟨p, hp⟩ : ∃ p, ps[k]? = some p := ⟨_, List.getElem?_eq_getElem hlt⟩
      obtain ⟨pb, po, rfl, -, hpb, c0⟩ := hpt.out k p hp
      have k0 := jcell_later hXr c0
      have hbr : pb < wr.heap.size := block_lt_of_cell k0
      haveI : In pb wr := ⟨hbr⟩
      have hnx := map_next vf hp
      have hbp := hbv.out p
      obtain ⟨C, ccap, rfl⟩ := own_form ho
      replace ho := hide ho
      have hvp := hvf.out p
      generalize vf p = x at *
      generalize (ps.take k).map vf = acc at *
      replace hnx := hide hnx
      have c0h := hide c0
      clear c0 hp
      obtain ⟨a1, a2⟩ := hb1.out p
      obtain ⟨b1, b2⟩ := hb2.out p
      have hv1p := hide (hv1.out p)
      have hv2p := hide (hv2.out p)
      generalize jv f p = a at *
      generalize jv g p = b at *
      have hvx : x = a + b := hvp
      clear hvp
      subst hvx
      go_wp2_with (first | (go_at_call 18; (with_reducible refine seq_gw (hv1p.out _ hX) ?_); intro q1) | (go_at_call 18; (with_reducible refine seq_gw' (hv2p.out _ (hX.trans q1.grown)) ?_); intro q2; have hz2 := GW.size q2) | (at_builtin; (refine wpl_app tZ rfl (.tmp 57) (.tmp 59) rfl rfl (own_ext ho.out ((q2.grown).alloc _)) rfl (src_z Tryz.underlying111 _ _ rfl (a + b) _) (by unfold maxLen; omega) (by omega) (by simp only [World.size_alloc]; omega) ?_; intro v8 w8 ho8 hg8 _)))
      go_roundg (ps.length - (k + 1))
      case measure => omega
      case rel => exact ⟨k + 1, by go_num, by omega, by rw [hnx.out]; exact own_appZ ho8, ext_grown ((hXr.trans q2.grown).alloc _) hg8 (fun q hq => (ho.out.lt q hq).1)⟩
    · have hk' : k = ps.length := by omega
      have hge : (ps.length : Int) ≤ k := by omega
      rw [hk', List.take_length] at ho
      have htd := hide (told_c ps vf hbv'.out hpl.out _ _ wr (Sl.ext hzp.out hXr) (own_zw ho))
      rw [← hFt.out.1, ← hFt.out.2] at htd
      obtain ⟨C, ccap, rfl⟩ := own_form ho
      rw [List.length_map] at htd ⊢
      replace hk' := hide hk'
      clear ho htl
      go_wp2_with (go_at_call 86; refine htd.out.mono ?_; rintro ee w9 ⟨v9, rfl, ho9, hx9⟩)
      go_returns
      exact ⟨_, rfl, own_base ho9 hzX, hX.trans hx9⟩
set_option maxHeartbeats 8000000 in
set_option maxRecDepth 100000 in
theorem refTwoMul_c (f g : List Jp) (vf0 vg : Value) (w : World) (hf : Jw w [] vf0 f) (hg : Jw w [] vg g) : Calls Tryz.prog 42 #[vf0, vg, .int .i64 1] w fun e w' => ∃ v', e = .returned (.tuple #[v', .int .i64 (twE mulO f g)]) ∧ OwnJ w' w.heap.size v' (twR mulO f g) ∧ Ext w w' := by
  have hm1 := hide (fun w' (hX : Ext w w') => refStepMay_c f vf0 w' (Sl.ext hf hX))
  have hm2 := hide (fun w' (hX : Ext w w') => refStepMay_c g vg w' (Sl.ext hg hX))
  have hX0 := hide (Ext.refl w)
  obtain ⟨E, hE⟩ : ∃ E, E = twE mulO f g := ⟨_, rfl⟩
  obtain ⟨R, hR⟩ : ∃ R, R = twR mulO f g := ⟨_, rfl⟩
  rw [← hE, ← hR]
  cases ha : mayJ f
  · have e1 : E = 2 := by rw [hE]; unfold twE; rw [ha]; rfl
    have e2 : R = [] := by rw [hR]; unfold twR; rw [← hE, e1, if_neg (by decide)]
    subst e1
    subst e2
    rw [ha] at hm1
    obtain ⟨A, cap, rfl, -, -, -⟩ := jw_form hf
    clear ha hE hR hf hg
    go_enter Tryz.func42, Tryz.ntmps42
    go_wp2_with (go_at_call 57; (with_reducible refine seq_gw (hm1.out _ hX0.out) ?_); intro q)
    go_returns
    exact ⟨_, rfl, World.ownsRow_nil _ _ _ _, q.grown⟩
  cases hb : mayJ g
  · have e1 : E = 2 := by rw [hE]; unfold twE; rw [ha, hb]; rfl
    have e2 : R = [] := by rw [hR]; unfold twR; rw [← hE, e1, if_neg (by decide)]
    subst e1
    subst e2
    rw [ha] at hm1
    rw [hb] at hm2
    obtain ⟨A, cap, rfl, -, -, -⟩ := jw_form hf
    obtain ⟨A2, cap2, rfl, -, -, -⟩ := jw_form hg
    clear ha hb hE hR hf hg
    go_enter Tryz.func42, Tryz.ntmps42
    go_wp2_with (first | (go_at_call 57; (with_reducible refine seq_gw (hm1.out _ hX0.out) ?_); intro q) | (go_at_call 57; (with_reducible refine seq_gw' (hm2.out _ q.grown) ?_); intro q2))
    go_returns
    exact ⟨_, rfl, World.ownsRow_nil _ _ _ _, q2.grown⟩
  obtain ⟨vf, hvfe⟩ : ∃ vf : Int → Int, vf = opv mulO f g := ⟨_, rfl⟩
  obtain ⟨ps, hpse⟩ : ∃ ps, ps = plc (plc [] f) g := ⟨_, rfl⟩
  have hFt : Hid (E = full (tell vf ps 0) ∧ R = kept (tell vf ps 0)) := by
    show _ ∧ _
    rw [hE, hR, hvfe, hpse]
    have e : twE mulO f g = full (opd mulO f g) := by unfold twE; rw [ha, hb]; rfl
    refine ⟨e, ?_⟩
    unfold twR
    rw [e]
    show (if full (opd mulO f g) = 0 then opd mulO f g else []) = kept (opd mulO f g)
    unfold full kept
    cases mayJ (opd mulO f g) <;> rfl
  have hb1 := hide (fun p => mayJ_jv ha p)
  have hb2 := hide (fun p => mayJ_jv hb p)
  have hvf : Hid (∀ p, vf p = mulO (jv f p) (jv g p)) := fun p => by rw [hvfe]; rfl
  have hbv : Hid (∀ p, -1152921504606846976 ≤ vf p ∧ vf p ≤ 1152921504606846976) := fun p => by rw [hvf.out p]; exact small_mul _ _ (hb1.out p) (hb2.out p)
  have hbv' : Hid (∀ p ∈ ps, -1152921504606846976 ≤ vf p ∧ vf p ≤ 1152921504606846976) := fun p _ => hbv.out p
  have hpl : Hid (ps.length ≤ 4096) := by show _ ≤ _; rw [hpse]; have := places_len f g; have := mayJ_len ha; have := mayJ_len hb; omega
  have hpI : (ps.length : Int) ≤ 4096 := by have := hpl.out; omega
  have hv1 := hide (fun p w' (hX : Ext w w') => refValue_c f (mayJ_net ha) (mayJ_4096 ha) p vf0 w' (Sl.ext hf hX))
  have hv2 := hide (fun p w' (hX : Ext w w') => refValue_c g (mayJ_net hb) (mayJ_4096 hb) p vg w' (Sl.ext hg hX))
  have hplc := hide (fun w' (hX : Ext w w') => places_c f g (mayJ_len ha) (mayJ_len hb) vf0 vg w' (Sl.ext hf hX) (Sl.ext hg hX))
  rw [← hpse] at hplc
  rw [ha] at hm1
  rw [hb] at hm2
  obtain ⟨A, cap, rfl, -, -, -⟩ := jw_form hf
  obtain ⟨A2, cap2, rfl, -, -, -⟩ := jw_form hg
  clear ha hb hE hR hf hg hpse hvfe
  go_enter Tryz.func42, Tryz.ntmps42
  go_wp2_with (first | (go_at_call 57; (with_reducible refine seq_gw (hm1.out _ hX0.out) ?_); intro q) | (go_at_call 57; (with_reducible refine seq_gw' (hm2.out _ q.grown) ?_); intro q2) | (go_at_call 85; refine (hplc.out _ q2.grown).mono ?_; rintro ee wp ⟨vp, rfl, hz, hxp⟩; have hXp := hide (q2.grown.trans hxp); have hXpB := hXp.out.size; obtain ⟨P, pcap, rfl, hpc1, hpc2, hpt⟩ := zw_form hz; unfold maxLen at hpc2; replace hpt := hide hpt; have hzp := hide hz; clear hz))
  clear hm1 hm2 hplc
  go_loopg [9, 10] ps.length (fun gh u i wr => ∃ (k : Nat), i = .int .i64 k ∧ k + gh = ps.length ∧ OwnZ wr wp.heap.size u ((ps.take k).map vf) ∧ Ext wp wr)
  case atStart => exact ⟨0, rfl, by omega, World.ownsRow_lit (base := wp.heap.size) (e := 3) (size := 1) wp #[] 0 (Nat.le_refl _) (by decide) rfl, (Ext.refl wp).alloc _⟩
  case round =>
    obtain ⟨k, rfl, hk, ho, hXr⟩ := hrel
    have hX := hXp.out.trans hXr
    have hzX := hX.size
    have hzX2 := hXr.size
    have htl : ((ps.take k).map vf).length ≤ k := by rw [List.length_map, List.length_take]; omega
    by_cases hlt : k < ps.length
    · obtain ⟨p, hp⟩ : ∃ p, ps[k]? = some p := ⟨_, List.getElem?_eq_getElem hlt⟩
      obtain ⟨pb, po, rfl, -, hpb, c0⟩ := hpt.out k p hp
      have k0 := jcell_later hXr c0
      have hbr : pb < wr.heap.size := block_lt_of_cell k0
      haveI : In pb wr := ⟨hbr⟩
      have hnx := map_next vf hp
      have hbp := hbv.out p
      obtain ⟨C, ccap, rfl⟩ := own_form ho
      replace ho := hide ho
      have hvp := hvf.out p
      generalize vf p = x at *
      generalize (ps.take k).map vf = acc at *
      replace hnx := hide hnx
      have c0h := hide c0
      clear c0 hp
      obtain ⟨a1, a2⟩ := hb1.out p
      obtain ⟨b1, b2⟩ := hb2.out p
      have hv1p := hide (hv1.out p)
      have hv2p := hide (hv2.out p)
      generalize jv f p = a at *
      generalize jv g p = b at *
      obtain ⟨m1, m2⟩ := mul_small ⟨a1, a2⟩ ⟨b1, b2⟩
      have hw : IntKind.i64.wrap (a * b) = a * b := by
        generalize a * b = y at *
        simp [IntKind.wrap, IntKind.bits, IntKind.signed]; omega
      have hvx : x = a * b := hvp
      clear hvp
      subst hvx
      go_wp2_with (first | (go_at_call 18; (with_reducible refine seq_gw (hv1p.out _ hX) ?_); intro q1) | (go_at_call 18; (with_reducible refine seq_gw' (hv2p.out _ (hX.trans q1.grown)) ?_); intro q2; have hz2 := GW.size q2) | (at_builtin; (refine wpl_app tZ rfl (.tmp 57) (.tmp 59) rfl rfl (own_ext ho.out ((q2.grown).alloc _)) rfl (src_z Tryz.underlying111 _ _ rfl (a * b) _) (by unfold maxLen; omega) (by omega) (by simp only [World.size_alloc]; omega) ?_; intro v8 w8 ho8 hg8 _)))
      go_roundg (ps.length - (k + 1))
      case measure => omega
      case rel => exact ⟨k + 1, by go_num, by omega, by rw [hnx.out]; exact own_appZ ho8, ext_grown ((hXr.trans q2.grown).alloc _) hg8 (fun q hq => (ho.out.lt q hq).1)⟩
    · have hk' : k = ps.length := by omega
      have hge : (ps.length : Int) ≤ k := by omega
      rw [hk', List.take_length] at ho
      have htd := hide (told_c ps vf hbv'.out hpl.out _ _ wr (Sl.ext hzp.out hXr) (own_zw ho))
      rw [← hFt.out.1, ← hFt.out.2] at htd
      obtain ⟨C, ccap, rfl⟩ := own_form ho
      rw [List.length_map] at htd ⊢
      replace hk' := hide hk'
      clear ho htl
      go_wp2_with (go_at_call 86; refine htd.out.mono ?_; rintro ee w9 ⟨v9, rfl, ho9, hx9⟩)
      go_returns
      exact ⟨_, rfl, own_base ho9 hzX, hX.trans hx9⟩
end Go.Proofs.YtljkneajdndgjabGreat
set_option linter.unusedVariables false
set_option linter.unusedSimpArgs false
namespace Go.Proofs.YtljkneajdndgjabGreat
open Go.RowKit
theorem ins_same {rows : List (List Vl)} {r : List Vl} (n : Nat) (h : rows[n]? = some r) : insR rows r = rows := by
  unfold insR
  rw [if_pos (hasR_iff.2 (List.mem_of_getElem? h))]
theorem ins_split {rows : List (List Vl)} {r : List Vl} (hv : ∀ y ∈ rows, mayR y = true) (hr : mayR r = true) (ha : rows.Pairwise rlt) (n : Nat) (h1 : ∀ x ∈ rows.take n, cmpT x r < 0) (h2 : ∀ x, rows[n]? = some x → ¬ cmpT x r < 0) (h3 : rows[n]? ≠ some r) : insR rows r = rows.take n ++ r :: rows.drop n := by
  have key : ∀ x ∈ rows.drop n, 0 < cmpT x r := by
    have hd : (rows.drop n).Pairwise rlt := ha.sublist (List.drop_sublist n rows)
    have h0 : (rows.drop n)[0]? = rows[n]? := by rw [List.getElem?_drop, Nat.add_zero]
    have hsub : ∀ y ∈ rows.drop n, y ∈ rows := fun y hy => List.mem_of_mem_drop hy
    generalize rows.drop n = t at hd h0 hsub
    rcases t with _ | ⟨y, t⟩
    · intro x hx; simp at hx
    · simp only [List.getElem?_cons_zero] at h0
      have hyr : rlt r y := by
        rcases row_ways (hv y (hsub y (by simp))) hr with h | h | h
        · exact absurd h.2 (h2 y h0.symm)
        · exact absurd (h ▸ h0.symm) h3
        · exact h
      intro x hx
      have hrx : rlt r x := by
        rcases List.mem_cons.1 hx with rfl | hx
        · exact hyr
        · exact rlt_trans hyr ((List.pairwise_cons.1 hd).1 x hx)
      have := hrx.2; have := cmpT_swap x r; omega
  have hno : r ∉ rows := by
    intro h
    rw [← List.take_append_drop n rows] at h
    have h0 := cmpT_self hr
    rcases List.mem_append.1 h with h | h
    · have := h1 r h; omega
    · have := key r h; omega
  unfold insR
  rw [if_neg (by rw [hasR_iff]; exact hno)]
  have e1 : rows.filter (fun x => decide (cmpT x r < 0)) = rows.take n := by
    conv => lhs; rw [← List.take_append_drop n rows]
    rw [List.filter_append, List.filter_eq_self.2 (fun x hx => by simpa using h1 x hx), List.filter_eq_nil_iff.2 (fun x hx => by have := key x hx; simp; omega), List.append_nil]
  have e2 : rows.filter (fun x => decide (0 < cmpT x r)) = rows.drop n := by
    conv => lhs; rw [← List.take_append_drop n rows]
    rw [List.filter_append, List.filter_eq_nil_iff.2 (fun x hx => by have := h1 x hx; simp; omega), List.filter_eq_self.2 (fun x hx => by simpa using key x hx), List.nil_append]
  rw [e1, e2]
theorem rowsL_take_succ (l : List Ed) (k : Nat) (e : Ed) (h : l[k]? = some e) : rowsL (l.take (k + 1)) = insR (rowsL (l.take k)) e.1 := by
  rw [List.take_add_one, h, Option.toList_some, rowsL_snoc]
/-- A cell for each row. -/
abbrev Rv := Value × List Vl
abbrev rvs (M : List Rv) : List (List Vl) := M.map Prod.snd
abbrev rcs (M : List Rv) : List Value := M.map Prod.fst

/-- What is asked of each edge, and of two that are neighbours. -/
def okE (e : Ed) : Bool := mayR e.1 && mayJ [e.2]
theorem mayJ_one (j : Jp) : mayJ [j] = okJ j := by
  rw [Bool.eq_iff_iff, mayJ_iff]
  constructor
  · rintro ⟨-, h, -⟩; exact h j (by simp)
  · intro h; exact ⟨by simp, by simpa using h, by simp [Asc]⟩
theorem okE_iff (e : Ed) : okE e = true ↔ mayR e.1 = true ∧ okJ e.2 = true := by unfold okE; rw [Bool.and_eq_true, mayJ_one]
/-- The first n edges are in form, each by itself and behind the one ahead of it. -/
def Chk (l : List Ed) (n : Nat) : Prop := (∀ i e, i < n → l[i]? = some e → okE e = true) ∧ ∀ i a b, i + 1 < n → l[i]? = some a → l[i + 1]? = some b → elt a b
theorem Chk.zero (l : List Ed) : Chk l 0 := ⟨fun i e h => by omega, fun i a b h => by omega⟩
theorem Chk.first {l : List Ed} {e : Ed} (h : l[0]? = some e) (ok : okE e = true) : Chk l 1 :=
  ⟨fun i x hi hx => by obtain rfl : i = 0 := by omega
                       rw [h] at hx; cases hx; exact ok, fun i a b hi => by omega⟩
theorem Chk.next {l : List Ed} {k : Nat} {d e : Ed} (c : Chk l (k + 1)) (hd : l[k]? = some d) (he : l[k + 1]? = some e) (ok : okE e = true) (lt : elt d e) : Chk l (k + 2) := by
  refine ⟨fun i x hi hx => ?_, fun i a b hi ha hb => ?_⟩
  · rcases Nat.lt_or_ge i (k + 1) with h | h
    · exact c.1 i x h hx
    · obtain rfl : i = k + 1 := by omega
      rw [he] at hx; cases hx; exact ok
  · rcases Nat.lt_or_ge (i + 1) (k + 1) with h | h
    · exact c.2 i a b h ha hb
    · obtain rfl : i = k := by omega
      rw [hd] at ha; rw [he] at hb; cases ha; cases hb; exact lt
theorem Chk.pairwise {l : List Ed} (c : Chk l l.length) : l.Pairwise elt := by
  have key : ∀ (m : List Ed), (∀ i a b, m[i]? = some a → m[i + 1]? = some b → elt a b) → m.Pairwise elt := by
    intro m
    induction m with
    | nil => intro _; exact .nil
    | cons a m ih =>
      intro h
      have ih' := ih fun i x y hx hy => h (i + 1) x y (by simpa using hx) (by simpa using hy)
      refine List.pairwise_cons.2 ⟨?_, ih'⟩
      rcases m with _ | ⟨b, m⟩
      · simp
      · have hab := h 0 a b rfl rfl
        intro x hx
        rcases List.mem_cons.1 hx with rfl | hx
        · exact hab
        · exact elt_trans hab ((List.pairwise_cons.1 ih').1 x hx)
  refine key l fun i a b ha hb => c.2 i a b ?_ ha hb
  have := (List.getElem?_eq_some_iff.1 hb).1
  exact this
theorem mayE_elt {l : List Ed} (h : mayE l = true) {i : Nat} {a b : Ed} (ha : l[i]? = some a) (hb : l[i + 1]? = some b) : elt a b := by
  obtain ⟨-, -, h3, -⟩ := mayE_doc.1 h
  obtain ⟨q, rfl⟩ := List.getElem?_eq_some_iff.1 ha
  obtain ⟨q', rfl⟩ := List.getElem?_eq_some_iff.1 hb
  exact List.pairwise_iff_getElem.1 h3 i (i + 1) q q' (by omega)
theorem mayE_okE {l : List Ed} (h : mayE l = true) {e : Ed} (he : e ∈ l) : okE e = true := (okE_iff e).2 ((mayE_doc.1 h).2.1 e he)
theorem mayE_chk {l : List Ed} (hl : l.length ≤ 4096) (c : Chk l l.length) (h : ∀ r ∈ rowsL l, (jmps l r).length ≤ 1024) : mayE l = true := by
  refine mayE_doc.2 ⟨hl, fun e he => ?_, c.pairwise, h⟩
  obtain ⟨i, hi⟩ := List.getElem?_of_mem he
  exact (okE_iff e).1 (c.1 i e (List.getElem?_eq_some_iff.1 hi).1 hi)
theorem Chk.rows {l : List Ed} (c : Chk l l.length) : ∀ e ∈ l, mayR e.1 = true := fun e he => by
  obtain ⟨i, hi⟩ := List.getElem?_of_mem he
  exact ((okE_iff e).1 (c.1 i e (List.getElem?_eq_some_iff.1 hi).1 hi)).1
theorem mayE_false {l : List Ed} (h : mayE l = true → False) : mayE l = false := by
  cases hh : mayE l
  · rfl
  · exact (h hh).elim
/-- Which rows' jumps a table asks about. -/
theorem tabE_rows {l : List Ed} (h : mayE l = true) : tabE l = (rowsL l).all fun r => decide (0 ≤ leV (jmps l r)) := by
  unfold tabE
  rw [h, Bool.true_and, grp_eq (mayE_rise h)]
  unfold byRows
  rw [List.all_map]
  rfl
theorem byRows_get {l : List Ed} {k : Nat} {r : List Vl} (h : (rowsL l)[k]? = some r) : (byRows l)[k]? = some (r, jmps l r) := by
  unfold byRows; rw [List.getElem?_map, h]; rfl
theorem byRows_len (l : List Ed) : (byRows l).length = (rowsL l).length := by unfold byRows; rw [List.length_map]
end Go.Proofs.YtljkneajdndgjabGreat
