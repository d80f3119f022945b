/-
  A helper of ours: no claim of its own. What comes in, as lists: pieces (a row, and a struct of two numbers).
-/
import Derived.Test.YtgniebjigphcgaaGreatPakF
import Derived.Test.YtgniebjigphcgaaGreatEdgO
import Derived.Test.YtgniebjigphcgaaGreatPakE
import Derived.Test.YtgniebjigphcgaaGreatArg
import Derived.Test.YtgniebjigphcgaaGreatStepS
import Derived.Test.YtgniebjigphcgaaGreatIdx
set_option linter.unusedVariables false
set_option linter.unusedSimpArgs false
namespace Go.Proofs.YtgniebjigphcgaaGreat
open Go.RowKit
attribute [local go_sem] GW.cell GW.frozen In.eq_true In.le_true In.ne In.ne' In.ne_add In.ne_add' In.lt_add Upto.le_true Upto.le_add Upto.lt_add
set_option maxHeartbeats 4000000 in
set_option maxRecDepth 100000 in
theorem refAlive_c (L : List Ve) (hL : L.length ≤ 4096) (r : List Vl) (t : Int) (v u : Value) (w : World) (h : Ew w [] v L) (hr : Rw w [] u r) : Calls Tryz.prog 25 #[v, u, .int .i64 t] w fun e w' => e = .returned (.int .i64 (aliveL r t (eds L))) ∧ Ext w w' := by
  have hv := hide h.2
  obtain ⟨A, cap, rfl, hlc, hlm, hat⟩ := ew_form h
  unfold maxLen at hlm
  replace hat := hide hat
  have hru := hide hr
  obtain ⟨U, ucap, rfl⟩ := rw_val hr
  clear h hr
  go_enter Tryz.func25, Tryz.ntmps25
  go_wp2_with fail
  go_loopg [7, 8] L.length (fun gh nn i wr => ∃ (k : Nat), i = .int .i64 k ∧ nn = .int .i64 (aliveL r t (eds (L.take k))) ∧ k + gh = L.length ∧ Ext w wr)
  case atStart => exact ⟨0, rfl, rfl, by omega, Ext.refl w⟩
  case round =>
    obtain ⟨k, rfl, rfl, hk, hX⟩ := hrel
    by_cases hlt : k < L.length
    · obtain ⟨x, hx⟩ : ∃ x, L[k]? = some x := ⟨_, List.getElem?_eq_getElem hlt⟩
      obtain ⟨b, o, rfl, -, hb, c0, c1, c2⟩ := hat.out k x hx
      have k0 := cell_later hX c0
      have k1 := cell_later hX c1
      have k2 := cell_later hX c2
      have hbr : b < wr.heap.size := block_lt_of_cell k0
      haveI : In b wr := ⟨hbr⟩
      have hrw := Sl.ext (hv.out x (List.mem_of_getElem? hx)) hX
      have hnx : aliveL r t (eds (L.take (k + 1))) = aliveL r t (eds (L.take k)) + (if x.2.1 = r ∧ x.2.2.1 ≤ t ∧ t < x.2.2.2 then 1 else 0) := by
        rw [List.take_add_one, hx, Option.toList_some, ← alive_snoc]; simp [eds]
      have hnb := alive_range r t (eds (L.take k))
      have hnl : (eds (L.take k)).length ≤ 4096 := by simp only [eds, List.length_map, List.length_take]; omega
      obtain ⟨xv, xq, xa, xn⟩ := x
      simp only at k0 k1 k2 hrw hnx
      generalize hN : aliveL r t (eds (L.take k)) = N at *
      have hnb1 : 0 ≤ N := hnb.1
      have hnb2 : N ≤ 4096 := by omega
      have hs := hide (fun w' (hX' : Ext wr w') => refRowSame_c (Sl.ext hrw hX') (Sl.ext (Sl.ext hru.out hX) hX'))
      obtain ⟨XA, xcap, rfl⟩ := rw_val hrw
      clear c0 c1 c2 hat hx hrw hN hnb hnl hru hv
      have hltI : (k : Int) < L.length := by omega
      by_cases h1 : xq = r
      · rw [decide_eq_true h1] at hs
        by_cases h2 : xa ≤ t
        · have d2 : decide (xa ≤ t) = true := decide_eq_true h2
          by_cases h3 : t < xn
          · have d3 : decide (t < xn) = true := decide_eq_true h3
            rw [if_pos ⟨h1, h2, h3⟩] at hnx
            replace hnx := hide hnx
            replace h1 := hide h1
            go_wp2_with (go_at_call 48; (with_reducible refine seq_gw (hs.out _ (Ext.refl _)) ?_); intro g)
            go_roundg (L.length - (k + 1))
            case measure => omega
            case rel => exact ⟨k + 1, by go_num, by rw [hnx.out], by omega, hX.trans g.grown⟩
          · have d3 : decide (t < xn) = false := decide_eq_false h3
            rw [if_neg (fun q => h3 q.2.2), Int.add_zero] at hnx
            replace hnx := hide hnx
            replace h1 := hide h1
            go_wp2_with (go_at_call 48; (with_reducible refine seq_gw (hs.out _ (Ext.refl _)) ?_); intro g)
            go_roundg (L.length - (k + 1))
            case measure => omega
            case rel => exact ⟨k + 1, by go_num, by rw [hnx.out], by omega, hX.trans g.grown⟩
        · have d2 : decide (xa ≤ t) = false := decide_eq_false h2
          rw [if_neg (fun q => h2 q.2.1), Int.add_zero] at hnx
          replace hnx := hide hnx
          replace h1 := hide h1
          go_wp2_with (go_at_call 48; (with_reducible refine seq_gw (hs.out _ (Ext.refl _)) ?_); intro g)
          go_roundg (L.length - (k + 1))
          case measure => omega
          case rel => exact ⟨k + 1, by go_num, by rw [hnx.out], by omega, hX.trans g.grown⟩
      · rw [decide_eq_false h1] at hs
        rw [if_neg (fun q => h1 q.1), Int.add_zero] at hnx
        replace hnx := hide hnx
        replace h1 := hide h1
        go_wp2_with (go_at_call 48; (with_reducible refine seq_gw (hs.out _ (Ext.refl _)) ?_); intro g)
        go_roundg (L.length - (k + 1))
        case measure => omega
        case rel => exact ⟨k + 1, by go_num, by rw [hnx.out], by omega, hX.trans g.grown⟩
    · have hk' : k = L.length := by omega
      have hge : (L.length : Int) ≤ k := by omega
      have hT : L.take k = L := List.take_of_length_le (by omega)
      rw [hT]
      replace hk' := hide hk'
      clear hT hat
      obtain ⟨N, hN⟩ : ∃ N, N = aliveL r t (eds L) := ⟨_, rfl⟩
      rw [← hN]
      replace hN := hide hN
      go_wp2_with fail
      go_returns
      exact ⟨by rw [← hN.out]; rfl, hX⟩
end Go.Proofs.YtgniebjigphcgaaGreat
set_option linter.unusedVariables false
set_option linter.unusedSimpArgs false
namespace Go.Proofs.YtgniebjigphcgaaGreat
open Go.RowKit
attribute [local go_sem] GW.cell GW.frozen In.eq_true In.le_true In.ne In.ne' In.ne_add In.ne_add' In.lt_add Upto.le_true Upto.le_add Upto.lt_add Oper.semAt_some wide_depth wide_fn
/-- A slice of jumps lies in no box of a slice. -/
theorem jw_box {W : World} {v : Value} {J : List Jp} {b : Nat} {T : TypeId} {A : Option Addr} {n cap : Nat} (h : Jw W [] v J) (o : Ob W b T [.slice A n cap]) : Jw W [b] v J := by
  obtain ⟨B, k, rfl, h1, h2, h3, h4⟩ := h
  refine ⟨B, k, rfl, h1, h2, h3, ?_⟩
  rcases h4 with h4 | ⟨c, p, e, -, hc⟩
  · exact .inl h4
  · rcases J with _ | ⟨j, J⟩
    · exact .inl rfl
    · refine .inr ⟨c, p, e, ?_, hc⟩
      intro hcb
      obtain rfl : c = b := by simpa using hcb
      have q := hc 0 (.int .i64 j.1) rfl
      rw [cell_of_row W c (p + 0) _ T (0, 0) o] at q
      rcases p with _ | p
      · simp at q
      · simp at q
theorem jmps_none {l : List Ed} {r : List Vl} (h : Rise l) (k : ∀ g ∈ grp l, g.1 ≠ r) : jmps l r = [] := by
  obtain ⟨-, k2, -⟩ := grp_rows h
  rcases hj : jmps l r with _ | ⟨j, t⟩
  · rfl
  · have : j ∈ jmps l r := by rw [hj]; simp
    obtain ⟨g, hg, e⟩ := List.mem_map.1 ((k2 r).2 ⟨_, jmps_mem.1 this, rfl⟩)
    exact absurd e (k g hg)

set_option maxHeartbeats 8000000 in
set_option maxRecDepth 100000 in
theorem edgeJumps_c (L : List Ve) (r : List Vl) (v u : Value) (w : World) (hC : Ew w [] v L) (hu : Rw w [] u r) : Calls Tryz.prog 27 #[v, u] w fun e w' => ∃ v', e = .returned v' ∧ Jw w' [] v' (if mayE (eds L) then jmps (eds L) r else []) ∧ Ext w w' := by
  have h1 := hide (fun w' (hX : Ext w w') => edgeMay_c L v w' (hC.ext hX))
  obtain ⟨A, cap, rfl, hlc, hlm, -⟩ := ew_form hC
  obtain ⟨U, ucap, rfl⟩ := rw_val hu
  unfold maxLen at hlm
  obtain ⟨Wb, hWb⟩ : ∃ Wb, Wb = (w.alloc (.cells #[.slice U r.length ucap] 46)).alloc (.cells #[.slice none 0 0] 22) := ⟨_, rfl⟩
  have hX0 : Ext w Wb := by rw [hWb]; exact ((Ext.refl w).alloc _).alloc _
  have a0 : Ob Wb w.heap.size 46 [.slice U r.length ucap] := by rw [hWb]; exact (Ob.new w 46 [.slice U r.length ucap]).alloc _
  have a1 : Ob Wb (w.heap.size + 1) 22 [.slice none 0 0] := by rw [hWb]; have := Ob.new (w.alloc (.cells #[.slice U r.length ucap] 46)) 22 [.slice none 0 0]; rwa [World.size_alloc] at this
  have hu' := hide hu
  refine calls_marks Tryz.func27 rfl ?_
  simp only [Tryz.ntmps27, List.size_toArray, List.length_cons, List.length_nil, Nat.reduceAdd, Nat.reduceSub, Array.replicate_succ, Array.replicate_zero, List.push_toArray, List.append_toArray, List.nil_append, List.cons_append]
  have hX0h := hide hX0
  cases ha : mayE (eds L)
  · rw [ha] at h1
    go_wp2_with (go_at_call 40; (with_reducible refine seq_gw (h1.out _ (by rw [← hWb]; exact hX0h.out)) ?_); intro g)
    have o2 : Ob (g.val.setCell ⟨w.heap.size + 1, 0, none⟩ (.slice none 0 0)) (w.heap.size + 1) 22 [.slice none 0 0] := ((hWb ▸ a1).ext g.grown).set 0 _
    have q2 := o2.cell 0 rfl
    exact ret_plain (v := .slice none 0 0) (by simp [results, Tryz.f27, go_sem, q2]) ⟨_, rfl, Sl.nil _ _ _, ((hWb ▸ hX0).trans g.grown).setCell (p := ⟨w.heap.size + 1, 0, none⟩) (by simp) _⟩
  have hL4 : L.length ≤ 4096 := by have := (mayE_iff.1 ha).1; simpa [eds] using this
  rw [ha] at h1
  obtain ⟨R, hR⟩ : ∃ R, R = jmps (eds L) r := ⟨_, rfl⟩
  rw [if_pos rfl, ← hR]
  have hRf : Hid (∀ g ∈ grp (eds L), g.1 = r → g.2 = R) := fun g hg h => by
    rw [hR, ← h]; exact ((grp_rows (mayE_rise ha)).2.2 g hg).1
  have hRt : Hid ((∀ g ∈ grp (eds L), g.1 ≠ r) → R = []) := fun h => by rw [hR]; exact jmps_none (mayE_rise ha) h
  clear hR ha
  replace hC := hide hC
  go_wp2_with (first | (go_at_call 40; (with_reducible refine seq_gw (h1.out _ (by rw [← hWb]; exact hX0h.out)) ?_); intro g2) | (go_at_call 62; refine (functions_c _ _ _ _).mono ?_; rintro ee w1 ⟨b, rfl, hb, hle, hX1⟩))
  have hX2 := hide (((hWb ▸ hX0 : Ext w ((w.alloc (.cells #[.slice U r.length ucap] 46)).alloc (.cells #[.slice none 0 0] 22))).trans g2.grown).trans hX1)
  have p0 : Ob w1 w.heap.size 46 [.slice U r.length ucap] := ((hWb ▸ a0 : Ob ((w.alloc (.cells #[.slice U r.length ucap] 46)).alloc (.cells #[.slice none 0 0] 22)) w.heap.size 46 [.slice U r.length ucap]).ext g2.grown).ext hX1
  have p1 : Ob w1 (w.heap.size + 1) 22 [.slice none 0 0] := ((hWb ▸ a1 : Ob ((w.alloc (.cells #[.slice U r.length ucap] 46)).alloc (.cells #[.slice none 0 0] 22)) (w.heap.size + 1) 22 [.slice none 0 0]).ext g2.grown).ext hX1
  have hz2 := hX2.out.size
  have hlw := p1.lt
  clear h1 hX1 hle hWb a0 a1 hX0 hX0h
  have hb1 : w.heap.size < w.heap.size + 1 := by omega
  generalize hb1e : w.heap.size + 1 = b1 at *
  refine wp_range (xs := grp (eds L)) rfl (enters_of Tryz.func93 (by kernel_rfl) rfl) (functions_seq L _ w w1 b hC.out (by omega) hX2.out hb) (Ext.refl _) hX2.out.size (fun x vs W h => h.size) (fun x vs => Hg.stab x vs)
    (fun k W => (Ob W w.heap.size 46 [.slice U r.length ucap] ∧ Ob W b1 22 [.slice none 0 0]) ∧ (Ext w W ∧ ∀ g ∈ (grp (eds L)).take k, g.1 ≠ r))
    (fun c k W => (c = .ret ∧ ∃ fv, Ob W b1 22 [fv] ∧ Jw W [] fv R) ∧ Ext w W)
    (fun k => ((Stab.ob _ _ _).and (Stab.ob _ _ _)).and ((Stab.of_ext hz2).and (Stab.pure _)))
    (fun c k => ((Stab.pure _).and (Stab.ex fun fv => (Stab.ob _ _ _).and (Stab.sl _ _ _ _ _))).and (Stab.of_ext hz2))
    ⟨⟨p0, p1⟩, hX2.out, by simp⟩
    (fun k x vs a' _ => ∃ q f, vs = #[q, f] ∧ a' = { tmps := #[.slice A L.length cap, .slice U r.length ucap, undef, .pointer (some ⟨w.heap.size, 0, none⟩), .pointer (some ⟨b1, 0, none⟩), q, f, .slice A L.length cap, .bool true, .bool false, .slice A L.length cap, .func (.func 93) #[] #[.pointer (some ⟨b, 0, none⟩)], q, f, undef, undef, undef, undef], defers := [] })
    (fun k x vs a' => Stab.pure _) ?assign ?body ?done ?stop
  case assign =>
    rintro LL k x vs W K _ ⟨q, f, rfl, -, -⟩ hK
    gi_wp2
    exact hK _ _ (Ext.refl _) ⟨q, f, rfl, rfl⟩
  case body =>
    rintro LL k x vs a' W hx ⟨⟨o0, o1⟩, hXw, hno⟩ ⟨r', f', e', hr, hf⟩ ⟨q1, f, rfl, rfl⟩
    obtain ⟨rfl, rfl⟩ : q1 = r' ∧ f = f' := by simpa using e'
    obtain ⟨q, J⟩ := x
    have q0 := o0.cell 0 rfl
    have c1 := o1.cell 0 rfl
    have hzW := hXw.size
    have hmem : ∀ y ∈ [b1], ∃ T vs, Ob W y T vs := by intro y hy; simp at hy; subst hy; exact ⟨_, _, o1⟩
    replace hmem := hide hmem
    have hltW := o0.lt
    have hlt1 := o1.lt
    have hfr := o1.free 0
    have hgm : (q, J) ∈ grp (eds L) := List.mem_of_getElem? hx
    haveI : In w.heap.size W := ⟨hltW⟩
    haveI : In b1 W := ⟨hlt1⟩
    have hcall := hide (rowSame_c hr (Sl.ext hu'.out hXw))
    have hfk := hide hf
    obtain ⟨QA, qcap, rfl⟩ := rw_val hr
    obtain ⟨JA, jcap, rfl, -, -, -⟩ := jw_form hf
    by_cases hm : q = r
    · rw [decide_eq_true hm] at hcall
      have hJR := hRf.out (q, J) hgm hm
      simp only at hJR
      replace hJR := hide hJR
      replace hm := hide hm
      clear hx hgm hr hf
      gi_wp2_with (gi_at_call 63; (with_reducible refine seq_gi hcall.out ?_); intro g)
      have o2 := o1.ext g.grown
      have hj2 : Jw (g.val.setCell ⟨b1, 0, none⟩ (.slice JA J.length jcap)) [] (.slice JA J.length jcap) R := by
        rw [← hJR.out]
        exact Sl.less (Sl.set (jw_box (Sl.ext hfk.out g.grown) o2) ⟨b1, 0, none⟩ _ (by simp)) (by simp)
      exact ⟨keeps_fr (S := [b1]) ((Fr.of_ext g.grown).setCell _ _ (.inl (by simp))) hmem.out, ⟨rfl, _, o2.set 0 _, hj2⟩, (hXw.trans g.grown).setCell (p := ⟨b1, 0, none⟩) (by show w.heap.size ≤ b1; omega) _⟩
    · rw [decide_eq_false hm] at hcall
      have hno2 := hide (show ∀ g ∈ (grp (eds L)).take (k + 1), g.1 ≠ r from fun g hg => by
        rw [List.take_add_one, hx] at hg
        rcases List.mem_append.1 hg with hg | hg
        · exact hno g hg
        · obtain rfl : g = (q, J) := by simpa using hg
          exact hm)
      replace hno := hide hno
      replace hm := hide hm
      clear hx hgm hr hf
      gi_wp2_with (gi_at_call 63; (with_reducible refine seq_gi hcall.out ?_); intro g)
      exact ⟨keeps_ext g.grown, below_fr (S := []) (Fr.of_ext g.grown) hzW (by simp), ⟨o0.ext g.grown, o1.ext g.grown⟩, hXw.trans g.grown, hno2.out⟩
  case done =>
    rintro D W hD ⟨⟨o0, o1⟩, hXw, hno⟩ hK
    rw [List.take_of_length_le (Nat.le_refl _)] at hno
    have hRf2 := hide (hRt.out hno)
    have q1 := o1.cell 0 rfl
    have hfr := o1.free 0
    have hlt1 := o1.lt
    haveI : In b1 W := ⟨hlt1⟩
    clear hno
    go_wp2
    have hK2 := (KeepsOthers.setCell W ⟨b1, 0, none⟩ (.slice none 0 0)).same D _ hK rfl
    have o2 : Ob (W.setCell ⟨b1, 0, none⟩ (.slice none 0 0)) b1 22 [.slice none 0 0] := o1.set 0 _
    have q2 := (ob_put (o' := .deferred none) hK2 rfl o2).cell 0 rfl
    refine ret_mark hK2 (v := .slice none 0 0) ?_ ⟨_, rfl, by rw [hRf2.out]; exact Sl.nil _ _ _, put_ext (hXw.setCell (p := ⟨b1, 0, none⟩) (by show w.heap.size ≤ b1; omega) _) (by omega) _⟩
    simp [results, Tryz.f27, go_sem, q2]
  case stop =>
    rintro D c k W hD hk ⟨⟨rfl, fv, o1, hj⟩, hXw⟩ hK
    replace hj := hide hj
    go_wp2
    have q2 := (ob_put (o' := .deferred none) hK rfl o1).cell 0 rfl
    refine ret_mark hK (v := fv) ?_ ⟨_, rfl, (Stab.sl (B := 0) _ _ _ _ _).put W D _ _ hj.out (Nat.zero_le _) hK rfl, put_ext hXw (by omega) _⟩
    simp [results, Tryz.f27, go_sem, q2]
end Go.Proofs.YtgniebjigphcgaaGreat
set_option linter.unusedVariables false
set_option linter.unusedSimpArgs false
namespace Go.Proofs.YtgniebjigphcgaaGreat
open Go.RowKit Go.Deep Go.ChangeShapes

section
variable {H : Type} {enc : TypeId × Value → H} {P : Program} {w : World} {base fuel : Nat} {held : Bool}
theorem rc_at (l : List Vl) (j : Nat) (u : Value) (h : (rc l)[j]? = some u) : ∃ i a k, l[i]? = some a ∧ j = i * 3 + k ∧ (vc a)[k]? = some u := by
  have hj : j < l.length * 3 := by
    rcases Nat.lt_or_ge j (l.length * 3) with h1 | h1
    · exact h1
    · rw [List.getElem?_eq_none (by rw [rc_length]; exact h1)] at h; cases h
  have hi : j / 3 < l.length := by omega
  refine ⟨j / 3, l[j / 3], j % 3, List.getElem?_eq_getElem hi, by omega, ?_⟩
  have hk : j % 3 = 0 ∨ j % 3 = 1 ∨ j % 3 = 2 := by omega
  obtain ⟨v, hv⟩ : ∃ v, (vc l[j / 3])[j % 3]? = some v := by
    rcases hk with e | e | e <;> rw [e] <;> exact ⟨_, rfl⟩
  have := rc_get l (j / 3) _ (List.getElem?_eq_getElem hi) _ v hv
  rw [show j / 3 * 3 + j % 3 = j by omega, h] at this
  rw [hv, this]
theorem open_row {t e : TypeId} {f0 f1 f2 : Field} {v : Value} {x : DataW H × List MemPlace} (ht : P.underlying t = some (.slice e)) (he : P.underlying e = some (.struct #[f0, f1, f2]))
    (ce : P.cellsOf e = 3) (o0 : f0.offset = 0) (o1 : f1.offset = 1) (o2 : f2.offset = 2) (c0 : P.cellsOf f0.type = 1) (c1 : P.cellsOf f1.type = 1) (c2 : P.cellsOf f2.type = 1)
    (u0 : P.underlying f0.type = some (.int .i64)) (u1 : P.underlying f1.type = some (.int .i64)) (u2 : P.underlying f2.type = some .string)
    (h : DataW.trod enc P w base (fun _ => true) held fuel t [v] = some x) : ∃ l : List Vl, l.length = sliceLen x.1 ∧ Rw w [] v l ∧ ∀ a ∈ l, inI a.2.1 := by
  rcases open_slice ht h with ⟨h1, rfl⟩ | ⟨a, len, cap, m, n, D, Pl, h1, _, hl, hm, hmm, rfl, hel⟩
  · obtain rfl : v = .slice none 0 0 := by simpa using h1
    exact ⟨[], rfl, Sl.nil _ _ _, by simp⟩
  · obtain rfl : v = .slice (some a) len cap := by simpa using h1
    simp only [if_true] at hmm
    have each : ∀ i, i < len → ∃ p : Vl, (∀ k u, (vc p)[k]? = some u → w.cell? ((a.add (i * 3)).add k) = some u) ∧ inI p.2.1 := by
      intro i hi
      obtain ⟨cs, hc, htr⟩ := hel i (by omega)
      rw [ce] at hc
      obtain ⟨_, hlen, hat⟩ := World.cells?_some hc
      obtain ⟨xs, k, _, _, _, hxl, hf⟩ := DataW.trod_struct he htr
      match cs, hlen with
      | [w0, w1, w2], _ =>
        match xs, hxl with
        | [y0, y1, y2], _ =>
          have g0 := hf 0 f0 rfl
          have g1 := hf 1 f1 rfl
          have g2 := hf 2 f2 rfl
          rw [o0, c0] at g0
          rw [o1, c1] at g1
          rw [o2, c2] at g2
          obtain ⟨z0, q0, _, _⟩ := DataW.trod_int u0 g0
          obtain ⟨z1, q1, _, k1⟩ := DataW.trod_int u1 g1
          obtain ⟨z2, q2, _, _⟩ := DataW.trod_string u2 g2
          simp at q0 q1 q2
          subst q0; subst q1; subst q2
          refine ⟨(z0, z1, z2), fun k u hu => ?_, wf_i64 k1⟩
          have hk : k < 3 := by simpa [vc] using (List.getElem?_eq_some_iff.1 hu).1
          rw [hat k hk]
          exact hu
    obtain ⟨p, hp⟩ := choose_lt (α := Vl) (p := fun i p => (∀ k u, (vc p)[k]? = some u → w.cell? ((a.add (i * 3)).add k) = some u) ∧ inI p.2.1) each
    refine ⟨(List.range len).map p, by simp [sliceLen], ⟨some a, cap, by simp, by simpa using hl, hm, by rw [rc_length], ?_⟩, ?_⟩
    · by_cases h0 : len = 0
      · left; subst h0; rfl
      right
      have hz := (hp 0 (by omega)).1 0 _ rfl
      obtain ⟨b, o, rfl⟩ := addr_plain (i := 0) (a := a) (by
        have e0 : (a.add (0 * 3)).add 0 = a.add 0 := by rw [Nat.zero_mul]; exact (show (a.add 0).add 0 = a.add (0 + 0) from Go.Deep.add_add ..)
        rw [e0] at hz; exact hz) rfl
      refine ⟨b, o, rfl, by simp, fun j u hu => ?_⟩
      obtain ⟨i, q, k, hq, rfl, hk⟩ := rc_at _ j u hu
      have hi : i < len := by
        rcases Nat.lt_or_ge i len with h | h
        · exact h
        · rw [List.getElem?_eq_none (by simpa using h)] at hq; cases hq
      have hq' : q = p i := by simpa [hi] using hq.symm
      subst hq'
      have := (hp i hi).1 k u hk
      rw [add_plain, add_plain, Nat.add_assoc] at this
      exact this
    · intro q hq
      simp only [List.mem_map, List.mem_range] at hq
      obtain ⟨i, hi, rfl⟩ := hq
      exact (hp i hi).2
theorem open_ic {t e : TypeId} {v : Value} {x : DataW H × List MemPlace} (ht : P.underlying t = some (.slice e)) (he : P.underlying e = some (.int .i64)) (hc : P.cellsOf e = 1)
    (h : DataW.trod enc P w base (fun _ => true) held fuel t [v] = some x) : ∃ l : List Int, l.length = sliceLen x.1 ∧ Sl w [] 1 v l.length (ic l) := by
  rcases open_ints ht he hc h with ⟨h1, rfl⟩ | ⟨a, len, cap, zs, h1, _, hl, hm, hz, rfl, hcell, hwf⟩
  · obtain rfl : v = .slice none 0 0 := by simpa using h1
    exact ⟨[], rfl, Sl.nil _ _ _⟩
  · obtain rfl : v = .slice (some a) len cap := by simpa using h1
    simp at hz
    refine ⟨zs.take len, ?_, ?_⟩
    · simp only [sliceLen, lits, List.length_map, List.length_take]; try omega
    · have hlen : (zs.take len).length = len := by rw [List.length_take]; omega
      rw [hlen]
      refine ⟨some a, cap, rfl, by omega, hm, by simp [ic]; omega, ?_⟩
      by_cases h0 : len = 0
      · left; subst h0; simp [ic]
      right
      obtain ⟨b, o, rfl⟩ := addr_plain (hcell 0 (by omega)) rfl
      refine ⟨b, o, rfl, by simp, fun j u hu => ?_⟩
      have hj : j < len := by
        have := (List.getElem?_eq_some_iff.1 hu).1
        simp [ic] at this
        omega
      have h1 := hcell j (by omega)
      rw [add_plain] at h1
      rw [h1, ← hu]
      simp only [ic, List.getElem?_map, List.getElem?_take, if_pos hj]
      rw [List.getD_eq_getElem?_getD, List.getElem?_eq_getElem (by omega)]
      rfl
theorem sized_elems {ts : List TypeId} {ds : List (DataW H)} (h : (DataW.weightsEach P ts ds).all (· ≤ reachBytes) = true) {j : Nat} {t e : TypeId} {d : DataW H} {b : Nat} (ht : ts[j]? = some t) (hd : ds[j]? = some d) (hu : P.underlying t = some (.slice e)) (hb : P.bytesOf e = b) :
    sliceLen d * b ≤ 140737488351232 := by
  cases d with
  | slice elems spare =>
    have h1 := sized_slice h ht hd hu
    rw [hb] at h1
    have h2 := Nat.mul_le_mul_right b (Nat.le_add_right elems.length spare.length)
    simp only [sliceLen, reachBytes] at *
    omega
  | _ => simp [sliceLen]
end
end Go.Proofs.YtgniebjigphcgaaGreat
set_option linter.unusedVariables false
set_option linter.unusedSimpArgs false
namespace Go.Proofs.YtgniebjigphcgaaGreat
open Go.RowKit Go.Deep Go.ChangeShapes

section
variable {H : Type} {enc : TypeId × Value → H} {P : Program} {w : World} {base fuel : Nat} {held : Bool}
theorem ec_at (l : List Ve) (j : Nat) (u : Value) (h : (ec l)[j]? = some u) : ∃ i a k, l[i]? = some a ∧ j = i * 3 + k ∧ (ec1 a)[k]? = some u := by
  have hj : j < l.length * 3 := by
    rcases Nat.lt_or_ge j (l.length * 3) with h1 | h1
    · exact h1
    · rw [List.getElem?_eq_none (by rw [ec_length]; exact h1)] at h; cases h
  have hi : j / 3 < l.length := by omega
  refine ⟨j / 3, l[j / 3], j % 3, List.getElem?_eq_getElem hi, by omega, ?_⟩
  have hk : j % 3 = 0 ∨ j % 3 = 1 ∨ j % 3 = 2 := by omega
  obtain ⟨v, hv⟩ : ∃ v, (ec1 l[j / 3])[j % 3]? = some v := by
    rcases hk with e | e | e <;> rw [e] <;> exact ⟨_, rfl⟩
  have := ec_get l (j / 3) _ (List.getElem?_eq_getElem hi) _ v hv
  rw [show j / 3 * 3 + j % 3 = j by omega, h] at this
  rw [hv, this]
theorem open_edges {t e r : TypeId} {f0 f1 f2 g0 g1 g2 : Field} {v : Value} {x : DataW H × List MemPlace} (ht : P.underlying t = some (.slice e)) (he : P.underlying e = some (.struct #[f0, f1, f2]))
    (ce : P.cellsOf e = 3) (o0 : f0.offset = 0) (o1 : f1.offset = 1) (o2 : f2.offset = 2) (c0 : P.cellsOf f0.type = 1) (c1 : P.cellsOf f1.type = 1) (c2 : P.cellsOf f2.type = 1)
    (u0 : P.underlying f0.type = some (.slice r)) (u1 : P.underlying f1.type = some (.int .i64)) (u2 : P.underlying f2.type = some (.int .i64))
    (hr : P.underlying r = some (.struct #[g0, g1, g2])) (cr : P.cellsOf r = 3) (p0 : g0.offset = 0) (p1 : g1.offset = 1) (p2 : g2.offset = 2) (d0 : P.cellsOf g0.type = 1) (d1 : P.cellsOf g1.type = 1) (d2 : P.cellsOf g2.type = 1)
    (y0 : P.underlying g0.type = some (.int .i64)) (y1 : P.underlying g1.type = some (.int .i64)) (y2 : P.underlying g2.type = some .string)
    (h : DataW.trod enc P w base (fun _ => true) held fuel t [v] = some x) : ∃ L : List Ve, L.length = sliceLen x.1 ∧ Ew w [] v L := by
  rcases open_slice ht h with ⟨h1, rfl⟩ | ⟨a, len, cap, m, n, D, Pl, h1, _, hl, hm, hmm, rfl, hel⟩
  · obtain rfl : v = .slice none 0 0 := by simpa using h1
    exact ⟨[], rfl, Sl.nil _ _ _, by simp⟩
  · obtain rfl : v = .slice (some a) len cap := by simpa using h1
    simp only [if_true] at hmm
    have each : ∀ i, i < len → ∃ p : Ve, (∀ k u, (ec1 p)[k]? = some u → w.cell? ((a.add (i * 3)).add k) = some u) ∧ Rw w [] p.1 p.2.1 := by
      intro i hi
      obtain ⟨cs, hc, htr⟩ := hel i (by omega)
      rw [ce] at hc
      obtain ⟨_, hlen, hat⟩ := World.cells?_some hc
      obtain ⟨xs, k, _, _, _, hxl, hf⟩ := DataW.trod_struct he htr
      match cs, hlen with
      | [w0, w1, w2], _ =>
        match xs, hxl with
        | [z0, z1, z2], _ =>
          have q0 := hf 0 f0 rfl
          have q1 := hf 1 f1 rfl
          have q2 := hf 2 f2 rfl
          rw [o0, c0] at q0
          rw [o1, c1] at q1
          rw [o2, c2] at q2
          obtain ⟨l, _, hrl, _⟩ := open_row u0 hr cr p0 p1 p2 d0 d1 d2 y0 y1 y2 (show DataW.trod enc P w base (fun _ => true) held k f0.type [w0] = some _ from by simpa using q0)
          obtain ⟨a1, e1, _, _⟩ := DataW.trod_int u1 q1
          obtain ⟨a2, e2, _, _⟩ := DataW.trod_int u2 q2
          simp at e1 e2
          subst e1; subst e2
          refine ⟨(w0, l, (a1, a2)), fun k u hu => ?_, hrl⟩
          have hk : k < 3 := by simpa [ec1] using (List.getElem?_eq_some_iff.1 hu).1
          rw [hat k hk]
          exact hu
    obtain ⟨p, hp⟩ := choose_lt (α := Ve) (p := fun i p => (∀ k u, (ec1 p)[k]? = some u → w.cell? ((a.add (i * 3)).add k) = some u) ∧ Rw w [] p.1 p.2.1) each
    refine ⟨(List.range len).map p, by simp [sliceLen], ⟨some a, cap, by simp, by simpa using hl, hm, by rw [ec_length], ?_⟩, ?_⟩
    · by_cases h0 : len = 0
      · left; subst h0; rfl
      right
      have hz := (hp 0 (by omega)).1 0 _ rfl
      obtain ⟨b, o, rfl⟩ := addr_plain (i := 0) (a := a) (by
        have e0 : (a.add (0 * 3)).add 0 = a.add 0 := by rw [Nat.zero_mul]; exact (show (a.add 0).add 0 = a.add (0 + 0) from Go.Deep.add_add ..)
        rw [e0] at hz; exact hz) rfl
      refine ⟨b, o, rfl, by simp, fun j u hu => ?_⟩
      obtain ⟨i, q, k, hq, rfl, hk⟩ := ec_at _ j u hu
      have hi : i < len := by
        rcases Nat.lt_or_ge i len with h | h
        · exact h
        · rw [List.getElem?_eq_none (by simpa using h)] at hq; cases hq
      have hq' : q = p i := by simpa [hi] using hq.symm
      subst hq'
      have := (hp i hi).1 k u hk
      rw [add_plain, add_plain, Nat.add_assoc] at this
      exact this
    · intro q hq
      obtain ⟨i, hi, rfl⟩ := List.mem_map.1 hq
      exact (hp i (List.mem_range.1 hi)).2
end
end Go.Proofs.YtgniebjigphcgaaGreat
set_option linter.unusedVariables false
set_option linter.unusedSimpArgs false
namespace Go.Proofs.YtgniebjigphcgaaGreat
open Go.RowKit Go.Deep Go.ChangeShapes
section
variable {H : Type} {enc : TypeId × Value → H} {P : Program} {w : World} {base fuel : Nat} {held : Bool}
theorem weightsAll_mem {P : Program} {e : TypeId} {n : Nat} : ∀ {l : List (DataW H)} {d : DataW H}, d ∈ l → n ∈ d.weights P e → n ∈ DataW.weightsAll P e l
  | [], d, h, _ => by cases h
  | x :: l, d, h, k => by
    rw [DataW.weightsAll]
    rcases List.mem_cons.1 h with rfl | h
    · exact List.mem_append_left _ k
    · exact List.mem_append_right _ (weightsAll_mem h k)
theorem open_pieces {t e r : TypeId} {f0 f1 s0 s1 g0 g1 g2 : Field} {v : Value} {x : DataW H × List MemPlace} (ht : P.underlying t = some (.slice e)) (he : P.underlying e = some (.struct #[f0, f1]))
    (ce : P.cellsOf e = 3) (o0 : f0.offset = 0) (o1 : f1.offset = 1) (c0 : P.cellsOf f0.type = 1) (c1 : P.cellsOf f1.type = 2)
    (u0 : P.underlying f0.type = some (.slice r)) (u1 : P.underlying f1.type = some (.struct #[s0, s1])) (so0 : s0.offset = 0) (so1 : s1.offset = 1) (sc0 : P.cellsOf s0.type = 1) (sc1 : P.cellsOf s1.type = 1) (v0 : P.underlying s0.type = some (.int .i64)) (v1 : P.underlying s1.type = some (.int .i64))
    (hr : P.underlying r = some (.struct #[g0, g1, g2])) (cr : P.cellsOf r = 3) (p0 : g0.offset = 0) (p1 : g1.offset = 1) (p2 : g2.offset = 2) (d0 : P.cellsOf g0.type = 1) (d1 : P.cellsOf g1.type = 1) (d2 : P.cellsOf g2.type = 1)
    (y0 : P.underlying g0.type = some (.int .i64)) (y1 : P.underlying g1.type = some (.int .i64)) (y2 : P.underlying g2.type = some .string)
    (h : DataW.trod enc P w base (fun _ => true) held fuel t [v] = some x) : ∃ L : List Ve, L.length = sliceLen x.1 ∧ Ew w [] v L ∧ ∀ p ∈ L, p.2.1.length = 0 ∨ ∃ d ∈ x.1.weights P t, p.2.1.length * P.bytesOf r ≤ d := by
  rcases open_slice ht h with ⟨h1, rfl⟩ | ⟨a, len, cap, m, n, D, Pl, h1, _, hl, hm, hmm, rfl, hel⟩
  · obtain rfl : v = .slice none 0 0 := by simpa using h1
    exact ⟨[], rfl, ⟨Sl.nil _ _ _, by simp⟩, by simp⟩
  · obtain rfl : v = .slice (some a) len cap := by simpa using h1
    simp only [if_true] at hmm
    have each : ∀ i, i < len → ∃ p : Ve, (∀ k u, (ec1 p)[k]? = some u → w.cell? ((a.add (i * 3)).add k) = some u) ∧ Rw w [] p.1 p.2.1 ∧ (p.2.1.length = 0 ∨ ∃ d ∈ (D i).weights P e, p.2.1.length * P.bytesOf r ≤ d) := by
      intro i hi
      obtain ⟨cs, hc, htr⟩ := hel i (by omega)
      rw [ce] at hc
      obtain ⟨_, hlen, hat⟩ := World.cells?_some hc
      obtain ⟨xs, k, _, hx2, _, hxl, hf⟩ := DataW.trod_struct he htr
      match cs, hlen with
      | [w0, w1, w2], _ =>
        match xs, hxl with
        | [z0, z1], _ =>
          have q0 := hf 0 f0 rfl
          have q1 := hf 1 f1 rfl
          rw [o0, c0] at q0
          rw [o1, c1] at q1
          obtain ⟨l, hl0, hrl, _⟩ := open_row u0 hr cr p0 p1 p2 d0 d1 d2 y0 y1 y2 (show DataW.trod enc P w base (fun _ => true) held k f0.type [w0] = some _ from by simpa using q0)
          obtain ⟨ys, k2, _, _, _, yl, hg⟩ := DataW.trod_struct u1 (show DataW.trod enc P w base (fun _ => true) held k f1.type [w1, w2] = some _ from by simpa using q1)
          obtain ⟨z3, z4, rfl⟩ : ∃ z3 z4, ys = [z3, z4] := by
            match ys, yl with
            | [z3, z4], _ => exact ⟨z3, z4, rfl⟩
          have q3 := hg 0 s0 rfl
          have q4 := hg 1 s1 rfl
          rw [so0, sc0] at q3
          rw [so1, sc1] at q4
          obtain ⟨a1, e1, _, _⟩ := DataW.trod_int v0 q3
          obtain ⟨a2, e2, _, _⟩ := DataW.trod_int v1 q4
          simp at e1 e2
          subst e1; subst e2
          refine ⟨(w0, l, (a1, a2)), fun k u hu => ?_, hrl, ?_⟩
          rotate_left
          · have e1 : D i = .agg [z0.1, z1.1] := by have := congrArg Prod.fst hx2; simpa using this
            rw [e1]
            simp only
            cases hz : z0.1 with
            | slice elems spare =>
              right
              refine ⟨(elems.length + spare.length) * P.bytesOf r, ?_, ?_⟩
              · simp [DataW.weights, DataW.weightsEach, he, u0]
              · rw [hl0, hz]
                exact Nat.mul_le_mul_right _ (Nat.le_add_right _ _)
            | _ => left; rw [hl0, hz]; rfl
          have hk : k < 3 := by simpa [ec1] using (List.getElem?_eq_some_iff.1 hu).1
          rw [hat k hk]
          exact hu
    obtain ⟨p, hp⟩ := choose_lt (α := Ve) (p := fun i p => (∀ k u, (ec1 p)[k]? = some u → w.cell? ((a.add (i * 3)).add k) = some u) ∧ Rw w [] p.1 p.2.1 ∧ (p.2.1.length = 0 ∨ ∃ d ∈ (D i).weights P e, p.2.1.length * P.bytesOf r ≤ d)) each
    refine ⟨(List.range len).map p, by simp [sliceLen], ⟨⟨some a, cap, by simp, by simpa using hl, hm, by rw [ec_length], ?_⟩, ?_⟩, ?_⟩
    · by_cases h0 : len = 0
      · left; subst h0; rfl
      right
      have hz := (hp 0 (by omega)).1 0 _ rfl
      obtain ⟨b, o, rfl⟩ := addr_plain (i := 0) (a := a) (by
        have e0 : (a.add (0 * 3)).add 0 = a.add 0 := by rw [Nat.zero_mul]; exact (show (a.add 0).add 0 = a.add (0 + 0) from Go.Deep.add_add ..)
        rw [e0] at hz; exact hz) rfl
      refine ⟨b, o, rfl, by simp, fun j u hu => ?_⟩
      obtain ⟨i, q, k, hq, rfl, hk⟩ := ec_at _ j u hu
      have hi : i < len := by
        rcases Nat.lt_or_ge i len with h | h
        · exact h
        · rw [List.getElem?_eq_none (by simpa using h)] at hq; cases hq
      have hq' : q = p i := by simpa [hi] using hq.symm
      subst hq'
      have := (hp i hi).1 k u hk
      rw [add_plain, add_plain, Nat.add_assoc] at this
      exact this
    · intro q hq
      obtain ⟨i, hi, rfl⟩ := List.mem_map.1 hq
      exact (hp i (List.mem_range.1 hi)).2.1
    · intro q hq
      obtain ⟨i, hi, rfl⟩ := List.mem_map.1 hq
      rcases (hp i (List.mem_range.1 hi)).2.2 with h0 | ⟨d, hd, hle⟩
      · exact .inl h0
      · refine .inr ⟨d, ?_, hle⟩
        simp only [DataW.weights, ht]
        exact List.mem_cons_of_mem _ (List.mem_append_left _ (weightsAll_mem (List.mem_map_of_mem hi) hd))
end
end Go.Proofs.YtgniebjigphcgaaGreat
