/-
  A helper of ours: no claim of its own. Layer 9 (step): the document's side: jumps put together.
-/
import Derived.Test.YtjmoifbajjemmaaGreatStepC
import Derived.Test.YtjmoifbajjemmaaGreatStepR
import Derived.Test.YtjmoifbajjemmaaGreatStepV
set_option linter.unusedVariables false
set_option linter.unusedSimpArgs false
namespace Go.Proofs.YtjmoifbajjemmaaGreat
open Go.RowKit
attribute [local go_sem] GW.cell GW.frozen In.eq_true In.le_true In.ne In.ne' In.ne_add In.ne_add' In.lt_add Upto.le_true Upto.le_add Upto.lt_add
attribute [-go_sem] sliced
attribute [local go_sem] sliced_eq
/-- The product of two numbers, one where the other is 0. -/
def addO (x y : Int) : Int := x + y
def mulO (x y : Int) : Int := x * y
def whO (x y : Int) : Int := if y = 0 then x else 0
theorem mul_small {x y : Int} (hx : -1073741824 ≤ x ∧ x ≤ 1073741824) (hy : -1073741824 ≤ y ∧ y ≤ 1073741824) : -1152921504606846976 ≤ x * y ∧ x * y ≤ 1152921504606846976 := by
  have h1 : x.natAbs ≤ 1073741824 := by omega
  have h2 : y.natAbs ≤ 1073741824 := by omega
  have h3 : (x * y).natAbs ≤ 1073741824 * 1073741824 := by rw [Int.natAbs_mul]; exact Nat.mul_le_mul h1 h2
  generalize x * y = z at *
  omega
def Small (op : Int → Int → Int) : Prop := ∀ x y, (-1073741824 ≤ x ∧ x ≤ 1073741824) → (-1073741824 ≤ y ∧ y ≤ 1073741824) → -1152921504606846976 ≤ op x y ∧ op x y ≤ 1152921504606846976
theorem small_add : Small addO := fun x y h1 h2 => by unfold addO; omega
theorem small_mul : Small mulO := fun x y h1 h2 => mul_small h1 h2
theorem small_wh : Small whO := fun x y h1 h2 => by unfold whO; split <;> omega
theorem js_pre {f1 f2 : List Jp} (h : mayJ (f1 ++ f2) = true) : -1073741824 ≤ js f1 ∧ js f1 ≤ 1073741824 := by
  have h1 := js_bound (K := 1048576) (by omega) (mayJ_net (mayJ_left h))
  have h2 := mayJ_len (mayJ_left h)
  omega
theorem pas_measure {f1 f2 g1 g2 : List Jp} {t : Int} (hf : mayJ (f1 ++ f2) = true) (hg : mayJ (g1 ++ g2) = true) (h0 : ¬ (f2 = [] ∧ g2 = [])) (ht : t = min (nxt f2) (nxt g2)) : (pasR f2 t).length + (pasR g2 t).length < f2.length + g2.length := by
  have a1 := nxt_le hf
  have a2 := nxt_le hg
  have l1 : (pasR f2 t).length ≤ f2.length := by have := congrArg List.length (pas_eq f2 t); rw [List.length_append] at this; omega
  have l2 : (pasR g2 t).length ≤ g2.length := by have := congrArg List.length (pas_eq g2 t); rw [List.length_append] at this; omega
  rcases f2 with _ | ⟨j, r⟩
  · rcases g2 with _ | ⟨k, s⟩
    · exact absurd ⟨rfl, rfl⟩ h0
    · have e : k.1 = t := by simp only [nxt] at ht a2; omega
      simp only [pasR, if_pos e, List.length_cons] at *; omega
  · by_cases e : j.1 = t
    · simp only [pasR, if_pos e, List.length_cons] at *; omega
    · rcases g2 with _ | ⟨k, s⟩
      · exfalso; simp only [nxt] at ht a1; omega
      · have e' : k.1 = t := by simp only [nxt] at ht; omega
        simp only [pasR, if_pos e', List.length_cons] at *; omega
theorem jw_tail {w : World} {S : List Nat} {A : Option Addr} {cap : Nat} {x : Jp} {p : List Jp} (h : Jw w S (.slice A (p.length + 1) cap) (x :: p)) : Jw w S (.slice (cutA A 1 cap 2) p.length (cap - 1)) p := by
  obtain ⟨_, c, e, h1, h2, h3, h4⟩ := id h
  simp only [Value.slice.injEq] at e
  obtain ⟨rfl, -, rfl⟩ := e
  have hc := h.cut 1 (p.length + 1) cap (by omega) (by simp) (by simpa using h1) (Nat.le_refl _)
  rw [sliced_eq, List.take_of_length_le (by rw [ps_length]; simp)] at hc
  exact hc
end Go.Proofs.YtjmoifbajjemmaaGreat
set_option linter.unusedVariables false
set_option linter.unusedSimpArgs false
namespace Go.Proofs.YtjmoifbajjemmaaGreat
open Go.RowKit
attribute [local go_sem] GW.cell GW.frozen In.eq_true In.le_true In.ne In.ne' In.ne_add In.ne_add' In.lt_add Upto.le_true Upto.le_add Upto.lt_add
theorem map_next {ps : List Int} {k : Nat} {p : Int} (vf : Int → Int) (hp : ps[k]? = some p) : (ps.take (k + 1)).map vf = (ps.take k).map vf ++ [vf p] := by
  rw [take_snoc hp, List.map_append]; rfl
theorem mayJ_4096 {l : List Jp} (h : mayJ l = true) : l.length ≤ 4096 := by have := mayJ_len h; omega
theorem jv_60 {l : List Jp} (hb : ∀ j ∈ l, -1048576 ≤ j.2 ∧ j.2 ≤ 1048576) (hn : l.length ≤ 4096) (t : Int) : -4294967296 ≤ jv l t ∧ jv l t ≤ 4294967296 := by
  have := jv_small hb hn l.length t
  rwa [List.take_length] at this
end Go.Proofs.YtjmoifbajjemmaaGreat
set_option linter.unusedVariables false
set_option linter.unusedSimpArgs false
namespace Go.Proofs.YtjmoifbajjemmaaGreat
open Go.RowKit
attribute [local go_sem] GW.cell GW.frozen In.eq_true In.le_true In.ne In.ne' In.ne_add In.ne_add' In.lt_add Upto.le_true Upto.le_add Upto.lt_add
theorem inF_next {l : List Jp} {k : Nat} {x : Jp} (hx : l[k]? = some x) : inF (l.take (k + 1)) = if x.1 = 1125899906842624 then inF (l.take k) else inF (l.take k) ++ [x] := by
  unfold inF
  rw [take_snoc hx, List.filter_append]
  by_cases h : x.1 = 1125899906842624
  · rw [if_pos h]; simp [h]
  · rw [if_neg h]; simp [h]
theorem inF_len (l : List Jp) : (inF l).length ≤ l.length := List.length_filter_le _ _
theorem any_next {l : List Jp} {k : Nat} {x : Jp} {p : Jp → Bool} (h : (l.take k).any p = false) (hx : l[k]? = some x) (hp : p x = false) : (l.take (k + 1)).any p = false := by
  rw [take_snoc hx, List.any_append, h]; simp [hp]
theorem any_yes {l : List Jp} {k : Nat} {x : Jp} {p : Jp → Bool} (hx : l[k]? = some x) (hp : p x = true) : l.any p = true := List.any_eq_true.2 ⟨x, List.mem_of_getElem? hx, hp⟩
set_option maxHeartbeats 8000000 in
set_option maxRecDepth 100000 in
theorem refNorm_c (l : List Jp) (hn : l.length ≤ 1024) (v : Value) (w : World) (h : Jw w [] v l) : Calls Tryz.prog 74 #[v] w fun e w' => ∃ v', e = .returned (.tuple #[v', .int .i64 (nmE l)]) ∧ OwnJ w' w.heap.size v' (nmR l) ∧ Ext w w' := by
  have hv0 := hide (fun (hb : ∀ j ∈ l, -1048576 ≤ j.2 ∧ j.2 ≤ 1048576) p w' (hX : Ext w w') => refValue_c l hb (by omega) p v w' (Sl.ext h hX))
  obtain ⟨A, cap, rfl, hl, hm, hat⟩ := jw_form h
  unfold maxLen at hm
  replace hat := hide hat
  have hnI : (l.length : Int) ≤ 1024 := by omega
  have hnd := hide hn
  obtain ⟨E, hE⟩ : ∃ E, E = nmE l := ⟨_, rfl⟩
  obtain ⟨R, hR⟩ : ∃ R, R = nmR l := ⟨_, rfl⟩
  rw [← hE, ← hR]
  replace hE := hide hE
  replace hR := hide hR
  clear h
  go_enter Tryz.func74, Tryz.ntmps74
  go_wp2_with fail
  go_loopg [4] l.length (fun gh i wr => ∃ (k : Nat), i = .int .i64 k ∧ k + gh = l.length ∧ Hid ((l.take k).any tooJ = false) ∧ Ext w wr)
  case atStart => exact ⟨0, rfl, by omega, rfl, Ext.refl w⟩
  case round =>
    obtain ⟨k, rfl, hk, hno, hX⟩ := hrel
    by_cases hlt : k < l.length
    · obtain ⟨x, hx⟩ : ∃ x, l[k]? = some x := ⟨_, List.getElem?_eq_getElem hlt⟩
      obtain ⟨b, o, rfl, -, hbl, c0, c1⟩ := hat.out k x hx
      have k1 := jcell_later hX c1
      have hbr : b < wr.heap.size := block_lt_of_cell k1
      cases ht : tooJ x
      · have hno' : Hid ((l.take (k + 1)).any tooJ = false) := any_next hno.out hx ht
        unfold tooJ at ht
        rw [decide_eq_false_iff_not] at ht
        have d1 : decide (1048576 < x.2) = false := by rw [decide_eq_false_iff_not]; omega
        have d2 : decide (x.2 < -1048576) = false := by rw [decide_eq_false_iff_not]; omega
        obtain ⟨xp, xn⟩ := x
        simp only at k1 d1 d2
        clear c0 c1 hx ht hno hv0
        go_wp2_with fail
        go_roundg (l.length - (k + 1))
        case measure => omega
        case rel => exact ⟨k + 1, by go_num, by omega, hno', hX⟩
      · have e1 : Hid (E = 2 ∧ R = []) := by
          have h1 : nmE l = 2 := by unfold nmE; rw [any_yes hx ht]; rfl
          refine ⟨hE.out.trans h1, hR.out.trans ?_⟩
          unfold nmR; rw [h1, if_neg (by decide)]
        unfold tooJ at ht
        rw [decide_eq_true_iff] at ht
        obtain ⟨xp, xn⟩ := x
        simp only at k1 ht
        clear c0 c1 hx hno hv0
        by_cases h1 : 1048576 < xn
        · clear ht
          go_wp2_with fail
          go_returns
          rw [e1.out.1, e1.out.2]
          exact ⟨_, rfl, World.ownsRow_nil _ _ _ _, hX⟩
        · have d1 : decide (1048576 < xn) = false := by rw [decide_eq_false_iff_not]; exact h1
          have h2 := ht.resolve_left h1
          clear ht h1
          go_wp2_with fail
          go_returns
          rw [e1.out.1, e1.out.2]
          exact ⟨_, rfl, World.ownsRow_nil _ _ _ _, hX⟩
    · have hk' : k = l.length := by omega
      have hge : (l.length : Int) ≤ k := by omega
      have hall : Hid (l.any tooJ = false) := by show _ = _; have := hno.out; rwa [hk', List.take_length] at this
      have hb := hide (net_ok hall.out)
      have hv1 := hide (hv0.out hb.out)
      have dk : decide (k < l.length) = false := by rw [decide_eq_false_iff_not]; exact hlt
      replace hk' := hide hk'
      have hlit := hide (World.ownsRow_lit (base := wr.heap.size) (e := 3) (size := 1) wr #[] 0 (Nat.le_refl _) (by decide) rfl)
      obtain ⟨w1, hw1⟩ : ∃ w1, w1 = wr := ⟨_, rfl⟩
      rw [← hw1] at hX hlit ⊢
      clear hlt hno hv0 hw1
      go_wp2_with fail
      go_loopg [5, 6] l.length (fun gh u i wr => ∃ (j : Nat), i = .int .i64 j ∧ j + gh = l.length ∧ Zw wr [] u (plc [] (inF (l.take j))) ∧ Hid ((l.take j).any nowJ = false) ∧ Ext w wr)
      case atStart => exact ⟨0, rfl, by omega, own_zw hlit.out, rfl, hX.alloc _⟩
      case round =>
        clear hlit
        obtain ⟨j, rfl, hj, hz, hno, hX2⟩ := hrel
        by_cases hlt2 : j < l.length
        · obtain ⟨x, hx⟩ : ∃ x, l[j]? = some x := ⟨_, List.getElem?_eq_getElem hlt2⟩
          obtain ⟨b, o, rfl, -, hbl, c0, c1⟩ := hat.out j x hx
          have k0 := jcell_later hX2 c0
          have hbr : b < wr.heap.size := block_lt_of_cell k0
          cases ht : nowJ x
          · have hno' : Hid ((l.take (j + 1)).any nowJ = false) := any_next hno.out hx ht
            have hinf := inF_next hx
            unfold nowJ at ht
            rw [decide_eq_false_iff_not] at ht
            have d1 : decide (x.1 < -1) = false := by rw [decide_eq_false_iff_not]; omega
            have d2 : decide (1125899906842624 < x.1) = false := by rw [decide_eq_false_iff_not]; omega
            have hlen : (plc [] (inF (l.take j))).length ≤ 4096 := by
              have h1 := plc_length (inF (l.take j)) [] Asc.nil'
              have h2 := inF_len (l.take j)
              have h3 : (l.take j).length ≤ l.length := by rw [List.length_take]; omega
              have h4 := hnd.out
              simp only [List.length_nil] at h1
              omega
            by_cases hF : x.1 < 1125899906842624
            · rw [if_neg (by omega)] at hinf
              have hnx : Hid (plc [] (inF (l.take (j + 1))) = ins (plc [] (inF (l.take j))) x.1) := by show _ = _; rw [hinf, plc_snoc]
              have hwt := hide (with_c (plc [] (inF (l.take j))) (plc_asc _ _ Asc.nil') hlen x.1 _ wr hz)
              obtain ⟨C, ccap, rfl, -, -, -⟩ := zw_form hz
              obtain ⟨xp, xn⟩ := x
              simp only at k0 d1 d2 hF
              clear c0 c1 hx ht hno hinf hz hlen
              go_wp2_with (go_at_call 96; refine hwt.out.mono ?_; rintro ee w7 ⟨v7, rfl, hz7, hx7⟩)
              go_roundg (l.length - (j + 1))
              case measure => omega
              case rel => exact ⟨j + 1, by go_num, by omega, by rw [hnx.out]; exact hz7, hno', hX2.trans hx7⟩
            · have d3 : decide (x.1 < 1125899906842624) = false := by rw [decide_eq_false_iff_not]; exact hF
              rw [if_pos (by omega)] at hinf
              have hnx : Hid (inF (l.take (j + 1)) = inF (l.take j)) := hinf
              obtain ⟨C, ccap, rfl, -, -, -⟩ := zw_form hz
              obtain ⟨xp, xn⟩ := x
              simp only at k0 d1 d2 d3
              replace hz := hide hz
              clear c0 c1 hx ht hno hinf hlen hF
              go_wp2_with fail
              go_roundg (l.length - (j + 1))
              case measure => omega
              case rel => exact ⟨j + 1, by go_num, by omega, by rw [hnx.out]; exact hz.out, hno', hX2⟩
          · have e1 : Hid (E = 13 ∧ R = []) := by
              have h1 : nmE l = 13 := by unfold nmE; rw [hall.out, any_yes hx ht]; rfl
              refine ⟨hE.out.trans h1, hR.out.trans ?_⟩
              unfold nmR; rw [h1, if_neg (by decide)]
            unfold nowJ at ht
            rw [decide_eq_true_iff] at ht
            obtain ⟨C, ccap, rfl, -, -, -⟩ := zw_form hz
            obtain ⟨xp, xn⟩ := x
            simp only at k0 ht
            clear c0 c1 hx hno hz
            by_cases h1 : xp < -1
            · clear ht
              go_wp2_with fail
              go_returns
              rw [e1.out.1, e1.out.2]
              exact ⟨_, rfl, World.ownsRow_nil _ _ _ _, hX2⟩
            · have d1 : decide (xp < -1) = false := by rw [decide_eq_false_iff_not]; exact h1
              have h2 := ht.resolve_left h1
              clear ht h1
              go_wp2_with fail
              go_returns
              rw [e1.out.1, e1.out.2]
              exact ⟨_, rfl, World.ownsRow_nil _ _ _ _, hX2⟩
        · have hj' : j = l.length := by omega
          have hge2 : (l.length : Int) ≤ j := by omega
          have hall2 : Hid (l.any nowJ = false) := by show _ = _; have := hno.out; rwa [hj', List.take_length] at this
          rw [hj', List.take_length] at hz
          obtain ⟨vf, hvfe⟩ : ∃ vf : Int → Int, vf = jv l := ⟨_, rfl⟩
          obtain ⟨ps, hpse⟩ : ∃ ps, ps = plc [] (inF l) := ⟨_, rfl⟩
          have hFt : Hid (E = full (tell vf ps 0) ∧ R = kept (tell vf ps 0)) := by
            show _ ∧ _
            have e : nmE l = full (nmL l) := by unfold nmE; rw [hall.out, hall2.out]; rfl
            rw [hE.out, hR.out, hvfe, hpse]
            refine ⟨e, ?_⟩
            unfold nmR
            rw [e]
            show (if full (nmL l) = 0 then nmL l else []) = kept (nmL l)
            unfold full kept
            cases mayJ (nmL l) <;> rfl
          have hvf : Hid (∀ p, vf p = jv l p) := fun p => by rw [hvfe]
          have hbv : Hid (∀ p, -1152921504606846976 ≤ vf p ∧ vf p ≤ 1152921504606846976) := fun p => by rw [hvfe]; have := jv_60 hb.out (by have := hnd.out; omega) p; omega
          have hbv' : Hid (∀ p ∈ ps, -1152921504606846976 ≤ vf p ∧ vf p ≤ 1152921504606846976) := fun p _ => hbv.out p
          have hpl : Hid (ps.length ≤ 4096) := by
            show _ ≤ _; rw [hpse]
            have h1 := plc_length (inF l) [] Asc.nil'
            have h2 := inF_len l
            have h3 := hnd.out
            simp only [List.length_nil] at h1; omega
          have hpI : (ps.length : Int) ≤ 4096 := by have := hpl.out; omega
          rw [← hpse] at hz
          have dj : decide (j < l.length) = false := by rw [decide_eq_false_iff_not]; exact hlt2
          have hXp := hide hX2
          have hXpB := hXp.out.size
          obtain ⟨wp, hwp⟩ : ∃ wp, wp = wr := ⟨_, rfl⟩
          rw [← hwp] at hz hXp hXpB hX2 ⊢
          obtain ⟨P, pcap, rfl, hpc1, hpc2, hpt⟩ := zw_form hz
          unfold maxLen at hpc2
          replace hpt := hide hpt
          have hzp := hide hz
          replace hj' := hide hj'
          clear hz hno hvfe hpse hwp hlt2 hX hX2
          go_wp2_with fail
          go_loopg [7, 8] ps.length (fun gh u i wr => ∃ (k : Nat), i = .int .i64 k ∧ k + gh = ps.length ∧ OwnZ wr wp.heap.size u ((ps.take k).map vf) ∧ Ext wp wr)
          case atStart => exact ⟨0, rfl, by omega, World.ownsRow_lit (base := wp.heap.size) (e := 3) (size := 1) wp #[] 0 (Nat.le_refl _) (by decide) rfl, (Ext.refl wp).alloc _⟩
          case round =>
            obtain ⟨k, rfl, hk, ho, hXr⟩ := hrel
            have hX := hXp.out.trans hXr
            have hzX := hX.size
            have hzX2 := hXr.size
            have htl : ((ps.take k).map vf).length ≤ k := by rw [List.length_map, List.length_take]; omega
            by_cases hlt : k < ps.length
            · obtain ⟨p, hp⟩ : ∃ p, ps[k]? = some p := ⟨_, List.getElem?_eq_getElem hlt⟩
              obtain ⟨pb, po, rfl, -, hpb, c0⟩ := hpt.out k p hp
              have k0 := jcell_later hXr c0
              have hbr : pb < wr.heap.size := block_lt_of_cell k0
              haveI : In pb wr := ⟨hbr⟩
              have hnx := map_next vf hp
              have hbp := hbv.out p
              obtain ⟨C, ccap, rfl⟩ := own_form ho
              replace ho := hide ho
              have hvp := hvf.out p
              generalize vf p = x at *
              generalize (ps.take k).map vf = acc at *
              replace hnx := hide hnx
              have c0h := hide c0
              clear c0 hp
              have hv1p := hide (hv1.out p)
              rw [← hvp] at hv1p
              clear hvp
              go_wp2_with (first | (go_at_call 97; (with_reducible refine seq_gw (hv1p.out _ hX) ?_); intro q1; have hz2 := GW.size q1) | (at_builtin; (refine wpl_app tZ rfl (.tmp 70) (.tmp 77) rfl rfl (own_ext ho.out ((q1.grown).alloc _)) rfl (src_z Tryz.underlying60 _ _ rfl x _) (by unfold maxLen; omega) (by omega) (by simp only [World.size_alloc]; omega) ?_; intro v8 w8 ho8 hg8 _)))
              go_roundg (ps.length - (k + 1))
              case measure => omega
              case rel => exact ⟨k + 1, by go_num, by omega, by rw [hnx.out]; exact own_appZ ho8, ext_grown ((hXr.trans q1.grown).alloc _) hg8 (fun q hq => (ho.out.lt q hq).1)⟩
            · have hk' : k = ps.length := by omega
              have hge : (ps.length : Int) ≤ k := by omega
              rw [hk', List.take_length] at ho
              have htd := hide (told_c ps vf hbv'.out hpl.out _ _ wr (Sl.ext hzp.out hXr) (own_zw ho))
              rw [← hFt.out.1, ← hFt.out.2] at htd
              obtain ⟨C, ccap, rfl⟩ := own_form ho
              rw [List.length_map] at htd ⊢
              replace hk' := hide hk'
              clear ho htl
              go_wp2_with (go_at_call 98; refine htd.out.mono ?_; rintro ee w9 ⟨v9, rfl, ho9, hx9⟩)
              go_returns
              exact ⟨_, rfl, own_base ho9 hzX, hX.trans hx9⟩
end Go.Proofs.YtjmoifbajjemmaaGreat
