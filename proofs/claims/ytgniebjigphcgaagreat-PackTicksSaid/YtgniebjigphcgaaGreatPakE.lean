/-
  A helper of ours: no claim of its own. Layer 11 (pack): the edges of the table of pieces, by the code.
-/
import Derived.Test.YtgniebjigphcgaaGreatEdgF
import Derived.Test.YtgniebjigphcgaaGreatEdgB
import Derived.Lib.AppendZerosOnto
import Derived.Lib.LazyBuf
import Derived.WalkLawsBesides
import Derived.Test.YtgniebjigphcgaaGreatEdgN
import Derived.Test.YtgniebjigphcgaaGreatSpanA
import Derived.Test.YtgniebjigphcgaaGreatPakP
set_option linter.unusedVariables false
set_option linter.unusedSimpArgs false
namespace Go.Proofs.YtgniebjigphcgaaGreat
open Go.RowKit
attribute [local go_sem] GW.cell GW.frozen In.eq_true In.le_true In.ne In.ne' In.ne_add In.ne_add' In.lt_add Upto.le_true Upto.le_add Upto.lt_add Oper.semAt_some wide_depth wide_fn
/-- A function that ranges over a function is left ahead of that. -/
theorem ret_plain {P : Program} {fn : Func} {R : Ending → World → Prop} {tmps : Array Value} {W : World} {v : Value} (hr : (results fn tmps).run P W = .ok v W) (hR : R (.returned v) W) :
    bodyPostM Fence.wide 0 P fn R .ret { tmps := tmps, defers := [] } W := ⟨v, hr, hR⟩
theorem all_rows (L : List Ve) : (eds L).all (fun e => mayR e.1) = L.all fun x => mayR x.2.1 := by rw [eds, List.all_map]; rfl
set_option maxHeartbeats 8000000 in
set_option maxRecDepth 100000 in
theorem edgeMay_c (L : List Ve) (v : Value) (w : World) (hC : Ew w [] v L) : Calls Tryz.prog 40 #[v] w fun e w' => e = .returned (.bool (mayE (eds L))) ∧ Ext w w' := by
  have h1 := hide (fun w' (hX : Ext w w') => containsERow_c L v w' (hC.ext hX))
  have h2 := hide (fun (hv : ∀ p ∈ L, mayR p.2.1 = true) w' (hX : Ext w w') => isSorted_c L hv v w' (hC.ext hX))
  obtain ⟨A, cap, rfl, hlc, hlm, -⟩ := ew_form hC
  unfold maxLen at hlm
  obtain ⟨R, hR⟩ : ∃ R, R = mayE (eds L) := ⟨_, rfl⟩
  rw [← hR]
  unfold mayE at hR
  rw [all_rows, List.length_map] at hR
  have ob0 : Ob (w.alloc (.cells #[.bool false] 4)) w.heap.size 4 [.bool false] := Ob.new w _ [.bool false]
  have hX0 : Ext w (w.alloc (.cells #[.bool false] 4)) := (Ext.refl w).alloc _
  have hnw : Hid (∀ k, k < w.heap.size + 1 → True) := fun _ _ => trivial
  refine calls_marks Tryz.func40 rfl ?_
  simp only [Tryz.ntmps40, List.size_toArray, List.length_cons, List.length_nil, Nat.reduceAdd, Nat.reduceSub, Array.replicate_succ, Array.replicate_zero, List.push_toArray, List.append_toArray, List.nil_append, List.cons_append]
  obtain ⟨Wb, hWb⟩ : ∃ Wb, Wb = w.alloc (.cells #[.bool false] 4) := ⟨_, rfl⟩
  rw [← hWb] at ob0 hX0
  have hWs : Wb.heap.size = w.heap.size + 1 := by rw [hWb]; simp
  have hX0h := hide hX0
  by_cases hl : 4096 < L.length
  · have hf := hide (show R = false by rw [hR, decide_eq_false (by omega), Bool.false_and])
    clear hR h1 h2
    go_wp2
    rw [← hWb]
    have q0 := ob0.cell 0 rfl
    exact ret_plain (v := .bool false) (by simp [results, Tryz.f40, go_sem, q0]) ⟨by rw [hf.out], hX0⟩
  have hlI : (L.length : Int) ≤ 4096 := by omega
  rw [decide_eq_true (by omega), Bool.true_and] at hR
  cases ha : L.all fun x => mayR x.2.1
  · rw [ha, Bool.false_and] at hR
    rw [ha] at h1
    replace hR := hide hR
    clear h2
    go_wp2_with (go_at_call 72; (with_reducible refine seq_gw (h1.out _ (by rw [← hWb]; exact hX0h.out)) ?_); intro g)
    have o2 : Ob (g.val.setCell ⟨w.heap.size, 0, none⟩ (.bool false)) w.heap.size 4 [.bool false] := ((hWb ▸ ob0).ext g.grown).set 0 _
    have q2 := o2.cell 0 rfl
    exact ret_plain (v := .bool false) (by simp [results, Tryz.f40, go_sem, q2]) ⟨by rw [hR.out], ((hWb ▸ hX0).trans g.grown).setCell (p := ⟨w.heap.size, 0, none⟩) (by simp) _⟩
  rw [ha, Bool.true_and] at hR
  rw [ha] at h1
  have hv : ∀ p ∈ L, mayR p.2.1 = true := fun p hp => List.all_eq_true.1 ha p hp
  have h3 := hide (h2.out hv)
  clear h2 ha
  cases hs : riseB (eds L)
  · rw [hs, Bool.false_and] at hR
    rw [hs] at h3
    replace hR := hide hR
    go_wp2_with (first | (go_at_call 72; (with_reducible refine seq_gw (h1.out _ (by rw [← hWb]; exact hX0h.out)) ?_); intro g) | (go_at_call 74; (with_reducible refine seq_gw' (h3.out _ ((by rw [← hWb]; exact hX0h.out : Ext w (w.alloc (.cells #[.bool false] 4))).trans g.grown)) ?_); intro g2))
    have o2 : Ob (g2.val.setCell ⟨w.heap.size, 0, none⟩ (.bool false)) w.heap.size 4 [.bool false] := ((hWb ▸ ob0).ext g2.grown).set 0 _
    have q2 := o2.cell 0 rfl
    exact ret_plain (v := .bool false) (by simp [results, Tryz.f40, go_sem, q2]) ⟨by rw [hR.out], ((hWb ▸ hX0).trans g2.grown).setCell (p := ⟨w.heap.size, 0, none⟩) (by simp) _⟩
  rw [hs, Bool.true_and] at hR
  rw [hs] at h3
  have hRf : Hid (∀ g ∈ grp (eds L), mayJ g.2 = false → R = false) := fun g hg h => by
    rw [hR, ← Bool.not_eq_true, List.all_eq_true]
    intro k
    have := k g hg
    rw [h] at this; cases this
  have hRt : Hid ((∀ g ∈ grp (eds L), mayJ g.2 = true) → R = true) := fun h => by rw [hR, List.all_eq_true]; exact h
  clear hR hs
  replace hv := hide hv
  replace hC := hide hC
  go_wp2_with (first | (go_at_call 72; (with_reducible refine seq_gw (h1.out _ (by rw [← hWb]; exact hX0h.out)) ?_); intro g) | (go_at_call 74; (with_reducible refine seq_gw' (h3.out _ ((by rw [← hWb]; exact hX0h.out : Ext w (w.alloc (.cells #[.bool false] 4))).trans g.grown)) ?_); intro g2) | (go_at_call 62; refine (functions_c _ _ _ _).mono ?_; rintro ee w1 ⟨b, rfl, hb, hle, hX1⟩))
  have hX2 := hide (((hWb ▸ hX0 : Ext w (w.alloc (.cells #[.bool false] 4))).trans g2.grown).trans hX1)
  have o1 : Ob w1 w.heap.size 4 [.bool false] := (((hWb ▸ ob0 : Ob (w.alloc (.cells #[.bool false] 4)) w.heap.size 4 [.bool false])).ext g2.grown).ext hX1
  have hz2 := hX2.out.size
  have hlw := o1.lt
  clear h1 h3 hX1 hle hWs hWb ob0 hX0 hX0h
  refine wp_range (xs := grp (eds L)) rfl (enters_of Tryz.func93 (by kernel_rfl) rfl) (functions_seq L _ w w1 b hC.out (by omega) hX2.out hb) (Ext.refl _) hX2.out.size (fun x vs W h => h.size) (fun x vs => Hg.stab x vs)
    (fun k W => Ob W w.heap.size 4 [.bool false] ∧ (Ext w W ∧ ∀ g ∈ (grp (eds L)).take k, mayJ g.2 = true))
    (fun c k W => ((c = .ret ∧ R = false) ∧ Ob W w.heap.size 4 [.bool false]) ∧ Ext w W)
    (fun k => (Stab.ob _ _ _).and ((Stab.of_ext hz2).and (Stab.pure _)))
    (fun c k => ((Stab.pure _).and (Stab.ob _ _ _)).and (Stab.of_ext hz2))
    ⟨o1, hX2.out, by simp⟩
    (fun k x vs a' _ => ∃ r f, vs = #[r, f] ∧ a' = { tmps := #[.slice A L.length cap, undef, .pointer (some ⟨w.heap.size, 0, none⟩), undef, f, .slice A L.length cap, .int .i64 L.length, .bool (decide ((4096 : Int) < L.length)), .bool (decide ((4096 : Int) < L.length)), .slice A L.length cap, .bool false, .bool (decide ((4096 : Int) < L.length)), .bool (decide ((4096 : Int) < L.length)), .slice A L.length cap, .bool true, .bool false, .bool (decide ((4096 : Int) < L.length)), .slice A L.length cap, .func (.func 93) #[] #[.pointer (some ⟨b, 0, none⟩)], r, f, undef, undef, undef], defers := [] })
    (fun k x vs a' => Stab.pure _) ?assign ?body ?done ?stop
  case assign =>
    rintro LL k x vs W K _ ⟨r, f, rfl, -, -⟩ hK
    gi_wp2
    exact hK _ _ (Ext.refl _) ⟨r, f, rfl, rfl⟩
  case body =>
    rintro LL k x vs a' W hx ⟨o0, hXw, hno⟩ ⟨r', f', e', hr, hf⟩ ⟨r, f, rfl, rfl⟩
    obtain ⟨rfl, rfl⟩ : r = r' ∧ f = f' := by simpa using e'
    obtain ⟨q, J⟩ := x
    have q0 := o0.cell 0 rfl
    have hfr := o0.free 0
    have hcall := hide (stepMay_c J f W hf)
    have hzW := hXw.size
    have hmem : ∀ y ∈ [w.heap.size], ∃ T vs, Ob W y T vs := by intro y hy; simp at hy; subst hy; exact ⟨_, _, o0⟩
    replace hmem := hide hmem
    have hltW := o0.lt
    have hgm : (q, J) ∈ grp (eds L) := List.mem_of_getElem? hx
    haveI : In w.heap.size W := ⟨hltW⟩
    obtain ⟨JA, jcap, rfl, -, -, -⟩ := jw_form hf
    cases hm : mayJ J
    · rw [hm] at hcall
      have hR0 := hide (hRf.out (q, J) hgm hm)
      clear hx hm hgm
      gi_wp2_with (gi_at_call 34; (with_reducible refine seq_gi hcall.out ?_); intro g)
      exact ⟨keeps_fr (S := [w.heap.size]) ((Fr.of_ext g.grown).setCell _ _ (.inl (by simp))) hmem.out, ⟨⟨rfl, hR0.out⟩, (o0.ext g.grown).set 0 _⟩, (hXw.trans g.grown).setCell (p := ⟨w.heap.size, 0, none⟩) (by simp) _⟩
    · rw [hm] at hcall
      have hno2 := hide (show ∀ g ∈ (grp (eds L)).take (k + 1), mayJ g.2 = true from fun g hg => by
        rw [List.take_add_one, hx] at hg
        rcases List.mem_append.1 hg with hg | hg
        · exact hno g hg
        · obtain rfl : g = (q, J) := by simpa using hg
          exact hm)
      clear hx hm hgm hno
      gi_wp2_with (gi_at_call 34; (with_reducible refine seq_gi hcall.out ?_); intro g)
      exact ⟨keeps_ext g.grown, below_fr (S := []) (Fr.of_ext g.grown) hzW (by simp), o0.ext g.grown, hXw.trans g.grown, hno2.out⟩
  case done =>
    rintro D W hD ⟨o0, hXw, hno⟩ hK
    rw [List.take_of_length_le (Nat.le_refl _)] at hno
    have hRf2 := hide (hRt.out hno)
    have q1 := o0.cell 0 rfl
    have hfr := o0.free 0
    clear hno
    go_wp2
    have hK2 := (KeepsOthers.setCell W ⟨w.heap.size, 0, none⟩ (.bool true)).same D _ hK rfl
    have o2 : Ob (W.setCell ⟨w.heap.size, 0, none⟩ (.bool true)) w.heap.size 4 [.bool true] := o0.set 0 _
    have q2 := (ob_put (o' := .deferred none) hK2 rfl o2).cell 0 rfl
    refine ret_mark hK2 (v := .bool true) ?_ ⟨by rw [hRf2.out], put_ext (hXw.setCell (p := ⟨w.heap.size, 0, none⟩) (by simp) _) (by omega) _⟩
    simp [results, Tryz.f40, go_sem, q2]
  case stop =>
    rintro D c k W hD hk ⟨⟨⟨rfl, hna⟩, o0⟩, hXw⟩ hK
    have hRf2 := hide hna
    go_wp2
    have q2 := (ob_put (o' := .deferred none) hK rfl o0).cell 0 rfl
    refine ret_mark hK (v := .bool false) ?_ ⟨by rw [hRf2.out], put_ext hXw (by omega) _⟩
    simp [results, Tryz.f40, go_sem, q2]

set_option maxHeartbeats 8000000 in
set_option maxRecDepth 100000 in
theorem edgeTable_c (L : List Ve) (v : Value) (w : World) (hC : Ew w [] v L) : Calls Tryz.prog 41 #[v] w fun e w' => e = .returned (.bool (tabE (eds L))) ∧ Ext w w' := by
  have h1 := hide (fun w' (hX : Ext w w') => edgeMay_c L v w' (hC.ext hX))
  obtain ⟨A, cap, rfl, hlc, hlm, -⟩ := ew_form hC
  unfold maxLen at hlm
  obtain ⟨R, hR⟩ : ∃ R, R = tabE (eds L) := ⟨_, rfl⟩
  rw [← hR]
  unfold tabE at hR
  have ob0 : Ob (w.alloc (.cells #[.bool false] 4)) w.heap.size 4 [.bool false] := Ob.new w _ [.bool false]
  have hX0 : Ext w (w.alloc (.cells #[.bool false] 4)) := (Ext.refl w).alloc _
  have hX0h := hide hX0
  refine calls_marks Tryz.func41 rfl ?_
  simp only [Tryz.ntmps41, List.size_toArray, List.length_cons, List.length_nil, Nat.reduceAdd, Nat.reduceSub, Array.replicate_succ, Array.replicate_zero, List.push_toArray, List.append_toArray, List.nil_append, List.cons_append]
  cases ha : mayE (eds L)
  · rw [ha, Bool.false_and] at hR
    rw [ha] at h1
    replace hR := hide hR
    go_wp2_with (go_at_call 40; (with_reducible refine seq_gw (h1.out _ hX0h.out) ?_); intro g)
    have o2 : Ob (g.val.setCell ⟨w.heap.size, 0, none⟩ (.bool false)) w.heap.size 4 [.bool false] := (ob0.ext g.grown).set 0 _
    have q2 := o2.cell 0 rfl
    exact ret_plain (v := .bool false) (by simp [results, Tryz.f41, go_sem, q2]) ⟨by rw [hR.out], (hX0.trans g.grown).setCell (p := ⟨w.heap.size, 0, none⟩) (by simp) _⟩
  have hL4 : L.length ≤ 4096 := by have := (mayE_iff.1 ha).1; simpa [eds] using this
  rw [ha, Bool.true_and] at hR
  rw [ha] at h1
  have hRf : Hid (∀ g ∈ grp (eds L), leV g.2 < 0 → R = false) := fun g hg h => by
    rw [hR, ← Bool.not_eq_true, List.all_eq_true]
    intro k
    have := k g hg
    rw [decide_eq_true_iff] at this; omega
  have hRt : Hid ((∀ g ∈ grp (eds L), 0 ≤ leV g.2) → R = true) := fun h => by rw [hR, List.all_eq_true]; exact fun g hg => decide_eq_true (h g hg)
  clear hR ha
  replace hC := hide hC
  go_wp2_with (first | (go_at_call 40; (with_reducible refine seq_gw (h1.out _ hX0h.out) ?_); intro g2) | (go_at_call 62; refine (functions_c _ _ _ _).mono ?_; rintro ee w1 ⟨b, rfl, hb, hle, hX1⟩))
  have hX2 := hide ((hX0.trans g2.grown).trans hX1)
  have o1 : Ob w1 w.heap.size 4 [.bool false] := (ob0.ext g2.grown).ext hX1
  have hz2 := hX2.out.size
  have hlw := o1.lt
  clear h1 hX1 hle ob0 hX0 hX0h
  refine wp_range (xs := grp (eds L)) rfl (enters_of Tryz.func93 (by kernel_rfl) rfl) (functions_seq L _ w w1 b hC.out (by omega) hX2.out hb) (Ext.refl _) hX2.out.size (fun x vs W h => h.size) (fun x vs => Hg.stab x vs)
    (fun k W => Ob W w.heap.size 4 [.bool false] ∧ (Ext w W ∧ ∀ g ∈ (grp (eds L)).take k, 0 ≤ leV g.2))
    (fun c k W => ((c = .ret ∧ R = false) ∧ Ob W w.heap.size 4 [.bool false]) ∧ Ext w W)
    (fun k => (Stab.ob _ _ _).and ((Stab.of_ext hz2).and (Stab.pure _)))
    (fun c k => ((Stab.pure _).and (Stab.ob _ _ _)).and (Stab.of_ext hz2))
    ⟨o1, hX2.out, by simp⟩
    (fun k x vs a' _ => ∃ r f, vs = #[r, f] ∧ a' = { tmps := #[.slice A L.length cap, undef, .pointer (some ⟨w.heap.size, 0, none⟩), undef, f, .slice A L.length cap, .bool true, .bool false, .slice A L.length cap, .func (.func 93) #[] #[.pointer (some ⟨b, 0, none⟩)], r, f, undef, undef, undef], defers := [] })
    (fun k x vs a' => Stab.pure _) ?assign ?body ?done ?stop
  case assign =>
    rintro LL k x vs W K _ ⟨r, f, rfl, -, -⟩ hK
    gi_wp2
    exact hK _ _ (Ext.refl _) ⟨r, f, rfl, rfl⟩
  case body =>
    rintro LL k x vs a' W hx ⟨o0, hXw, hno⟩ ⟨r', f', e', hr, hf⟩ ⟨r, f, rfl, rfl⟩
    obtain ⟨rfl, rfl⟩ : r = r' ∧ f = f' := by simpa using e'
    obtain ⟨q, J⟩ := x
    have q0 := o0.cell 0 rfl
    have hfr := o0.free 0
    have hcall := hide (stepLeast_c J f W hf)
    have hzW := hXw.size
    have hmem : ∀ y ∈ [w.heap.size], ∃ T vs, Ob W y T vs := by intro y hy; simp at hy; subst hy; exact ⟨_, _, o0⟩
    replace hmem := hide hmem
    have hltW := o0.lt
    have hgm : (q, J) ∈ grp (eds L) := List.mem_of_getElem? hx
    haveI : In w.heap.size W := ⟨hltW⟩
    obtain ⟨JA, jcap, rfl, -, -, -⟩ := jw_form hf
    by_cases hm : leV J < 0
    · have hR0 := hide (hRf.out (q, J) hgm hm)
      generalize leV J = z at *
      clear hx hgm
      gi_wp2_with (gi_at_call 35; (with_reducible refine seq_gi hcall.out ?_); intro g)
      exact ⟨keeps_fr (S := [w.heap.size]) ((Fr.of_ext g.grown).setCell _ _ (.inl (by simp))) hmem.out, ⟨⟨rfl, hR0.out⟩, (o0.ext g.grown).set 0 _⟩, (hXw.trans g.grown).setCell (p := ⟨w.heap.size, 0, none⟩) (by simp) _⟩
    · have hno2 := hide (show ∀ g ∈ (grp (eds L)).take (k + 1), 0 ≤ leV g.2 from fun g hg => by
        rw [List.take_add_one, hx] at hg
        rcases List.mem_append.1 hg with hg | hg
        · exact hno g hg
        · obtain rfl : g = (q, J) := by simpa using hg
          exact Int.not_lt.1 hm)
      replace hno := hide hno
      have hm' : 0 ≤ leV J := Int.not_lt.1 hm
      generalize leV J = z at *
      clear hx hgm
      gi_wp2_with (gi_at_call 35; (with_reducible refine seq_gi hcall.out ?_); intro g)
      exact ⟨keeps_ext g.grown, below_fr (S := []) (Fr.of_ext g.grown) hzW (by simp), o0.ext g.grown, hXw.trans g.grown, hno2.out⟩
  case done =>
    rintro D W hD ⟨o0, hXw, hno⟩ hK
    rw [List.take_of_length_le (Nat.le_refl _)] at hno
    have hRf2 := hide (hRt.out hno)
    have q1 := o0.cell 0 rfl
    have hfr := o0.free 0
    clear hno
    go_wp2
    have hK2 := (KeepsOthers.setCell W ⟨w.heap.size, 0, none⟩ (.bool true)).same D _ hK rfl
    have o2 : Ob (W.setCell ⟨w.heap.size, 0, none⟩ (.bool true)) w.heap.size 4 [.bool true] := o0.set 0 _
    have q2 := (ob_put (o' := .deferred none) hK2 rfl o2).cell 0 rfl
    refine ret_mark hK2 (v := .bool true) ?_ ⟨by rw [hRf2.out], put_ext (hXw.setCell (p := ⟨w.heap.size, 0, none⟩) (by simp) _) (by omega) _⟩
    simp [results, Tryz.f41, go_sem, q2]
  case stop =>
    rintro D c k W hD hk ⟨⟨⟨rfl, hna⟩, o0⟩, hXw⟩ hK
    have hRf2 := hide hna
    go_wp2
    have q2 := (ob_put (o' := .deferred none) hK rfl o0).cell 0 rfl
    refine ret_mark hK (v := .bool false) ?_ ⟨by rw [hRf2.out], put_ext hXw (by omega) _⟩
    simp [results, Tryz.f41, go_sem, q2]

end Go.Proofs.YtgniebjigphcgaaGreat
set_option linter.unusedVariables false
set_option linter.unusedSimpArgs false
namespace Go.Proofs.YtgniebjigphcgaaGreat
open Go.RowKit
attribute [local go_sem] GW.cell GW.frozen In.eq_true In.le_true In.ne In.ne' In.ne_add In.ne_add' In.lt_add Upto.le_true Upto.le_add Upto.lt_add
end Go.Proofs.YtgniebjigphcgaaGreat
set_option linter.unusedVariables false
set_option linter.unusedSimpArgs false
namespace Go.Proofs.YtgniebjigphcgaaGreat
open Go.RowKit
attribute [local go_sem] GW.cell GW.frozen In.eq_true In.le_true In.ne In.ne' In.ne_add In.ne_add' In.lt_add Upto.le_true Upto.le_add Upto.lt_add
theorem jmps_le (l : List Ed) (r : List Vl) : (jmps l r).length ≤ l.length := by unfold jmps; rw [List.length_map]; exact List.length_filter_le _ _
theorem mayE_len {l : List Ed} (h : mayE l = true) : l.length ≤ 4096 := (mayE_iff.1 h).1
theorem mayE_jl {l : List Ed} (h : mayE l = true) (r : List Vl) : (jmps l r).length ≤ 1024 := by
  obtain ⟨-, h2, h3⟩ := mayE_iff.1 h
  obtain ⟨-, k2⟩ := rowsL_ok h2.1
  by_cases hr : r ∈ rowsL l
  · have := h3 (r, jmps l r) (by rw [grp_eq h2]; exact List.mem_map.2 ⟨r, hr, rfl⟩)
    exact mayJ_len this
  · have : jmps l r = [] := by
      apply List.eq_nil_iff_forall_not_mem.2
      intro j hj
      exact hr ((k2 r).2 ⟨_, jmps_mem.1 hj, rfl⟩)
    rw [this]; simp
theorem lit2 (u : Value) (r : List Vl) (j k : Jp) (w : World) (h : Rw w [] u r) : Ew (w.alloc (.cells #[u, .int .i64 j.1, .int .i64 j.2, u, .int .i64 k.1, .int .i64 k.2] 71)) [] (.slice (some ⟨w.heap.size, 0, none⟩) 2 2) [(u, r, j), (u, r, k)] := by
  refine ⟨Sl.own (World.ownsRow_lit (base := w.heap.size) (e := 71) (size := 3) w #[u, .int .i64 j.1, .int .i64 j.2, u, .int .i64 k.1, .int .i64 k.2] 2 (Nat.le_refl _) (by decide) rfl) (by simp), fun p hp => ?_⟩
  simp only [List.mem_cons, List.not_mem_nil, or_false] at hp
  rcases hp with rfl | rfl <;> exact Sl.ext h ((Ext.refl w).alloc _)
/-- A row once, from one tick to another. -/
def ofE (r : List Vl) (f t : Int) : Int := if mayR r then (if smayB f t then neE [(r, (f, 1)), (r, (t, -1))] else 14) else 2
def ofR (r : List Vl) (f t : Int) : List Ed := if ofE r f t = 0 then neR [(r, (f, 1)), (r, (t, -1))] else []
theorem neR_bad {l : List Ed} (h : neE l ≠ 0) : neR l = [] := by unfold neR; rw [if_neg h]
/-- A sum. -/
def adE (a b : List Ed) : Int := if mayE a && mayE b then neE (a ++ b) else 2
def adR (a b : List Ed) : List Ed := if adE a b = 0 then neR (a ++ b) else []
end Go.Proofs.YtgniebjigphcgaaGreat
set_option linter.unusedVariables false
set_option linter.unusedSimpArgs false
namespace Go.Proofs.YtgniebjigphcgaaGreat
open Go.RowKit
attribute [local go_sem] GW.cell GW.frozen In.eq_true In.le_true In.ne In.ne' In.ne_add In.ne_add' In.lt_add Upto.le_true Upto.le_add Upto.lt_add
/-- Both ends of each piece. -/
def endsE (l : List Ed) : List Ed := l.flatMap fun e => [(e.1, (e.2.1, 1)), (e.1, (e.2.2, -1))]
def endsV (L : List Ve) : List Ve := L.flatMap fun p => [(p.1, p.2.1, (p.2.2.1, 1)), (p.1, p.2.1, (p.2.2.2, -1))]
theorem endsV_eds (L : List Ve) : eds (endsV L) = endsE (eds L) := by
  induction L with
  | nil => rfl
  | cons p r ih =>
    unfold endsV endsE eds at ih ⊢
    rw [List.flatMap_cons, List.map_append, ih]
    rfl
theorem endsV_len (L : List Ve) : (endsV L).length = 2 * L.length := by
  induction L with
  | nil => rfl
  | cons p r ih =>
    unfold endsV at ih ⊢
    rw [List.flatMap_cons, List.length_append, ih, List.length_cons]
    simp only [List.length_cons, List.length_nil]
    omega
theorem endsV_snoc (L : List Ve) (p : Ve) : endsV (L ++ [p]) = endsV L ++ [(p.1, p.2.1, (p.2.2.1, 1)), (p.1, p.2.1, (p.2.2.2, -1))] := by simp [endsV]
theorem endsV_mem {L : List Ve} {q : Ve} (h : q ∈ endsV L) : ∃ p ∈ L, q.1 = p.1 ∧ q.2.1 = p.2.1 := by
  obtain ⟨p, hp, h⟩ := List.mem_flatMap.1 h
  simp only [List.mem_cons, List.not_mem_nil, or_false] at h
  rcases h with rfl | rfl <;> exact ⟨p, hp, rfl, rfl⟩
/-- What is wrong with pieces whose edges are asked for; they. -/
def pkE (l : List Ed) : Int := if l.all mayPc then (if 4096 < l.length then 7 else neE (endsE l)) else 2
def pkR (l : List Ed) : List Ed := if pkE l = 0 then neR (endsE l) else []
set_option maxHeartbeats 4000000 in
set_option maxRecDepth 100000 in
theorem packEdges_c (L : List Ve) (hL : L.length ≤ 4096) (v : Value) (w : World) (h : Ew w [] v L) : Calls Tryz.prog 17 #[v] w fun e w' => ∃ v' M, e = .returned (.tuple #[v', .int .i64 (pkE (eds L))]) ∧ eds M = pkR (eds L) ∧ OwnEr w' w.heap.size v' M ∧ Ext w w' := by
  have hcc := hide (containsPc_c L v w h)
  have hall : L.all (fun x : Ve => mayPc x.2) = (eds L).all mayPc := by simp [eds, List.all_map]; rfl
  rw [hall] at hcc
  obtain ⟨A, cap, rfl, hlc, hlm, hat⟩ := ew_form h
  unfold maxLen at hlm
  have hv := hide h
  replace hat := hide hat
  obtain ⟨E, hE⟩ : ∃ E, E = pkE (eds L) := ⟨_, rfl⟩
  obtain ⟨R, hR⟩ : ∃ R, R = pkR (eds L) := ⟨_, rfl⟩
  rw [← hE, ← hR]
  unfold pkR at hR
  rw [← hE] at hR
  unfold pkE at hE
  clear h hall
  cases ha : (eds L).all mayPc
  · rw [ha] at hcc hE
    rw [if_neg (by decide)] at hE
    subst hE
    replace hR : R = [] := by rw [hR, if_neg (by decide)]
    replace hR := hide hR
    clear hat
    go_enter Tryz.func17, Tryz.ntmps17
    go_wp2_with (go_at_call 49; (with_reducible refine seq_gw hcc.out ?_); intro g)
    go_returns
    exact ⟨_, [], rfl, by rw [hR.out]; rfl, OwnEr.nil _ _, g.grown⟩
  rw [ha] at hcc hE
  rw [if_pos rfl, if_neg (by simp [eds]; omega)] at hE
  have hR2 : Hid (R = neR (endsE (eds L))) := by
    show R = _
    rw [hR]
    split
    · rfl
    · rename_i h; rw [hE] at h; rw [neR_bad h]
  replace hE := hide hE
  clear hR ha
  have hLI : (L.length : Int) ≤ 4096 := by omega
  go_enter Tryz.func17, Tryz.ntmps17
  go_wp2_with (go_at_call 49; (with_reducible refine seq_gw hcc.out ?_); intro g)
  have hXg := hide g.grown
  go_loopg [4, 14] L.length (fun gh vv i wr => ∃ (k : Nat), i = .int .i64 k ∧ k + gh = L.length ∧ OwnE wr w.heap.size vv (endsV (L.take k)) ∧ Ext w wr)
  case atStart => exact ⟨0, rfl, by omega, World.ownsRow_nil _ _ _ _, hXg.out⟩
  case round =>
    obtain ⟨k, rfl, hk, ho, hX⟩ := hrel
    clear hXg
    have hzX := hX.size
    by_cases hlt : k < L.length
    · obtain ⟨x, hx⟩ : ∃ x, L[k]? = some x := ⟨_, List.getElem?_eq_getElem hlt⟩
      obtain ⟨b, o, rfl, -, hb, c0, c1, c2⟩ := hat.out k x hx
      have k0 := cell_later hX c0
      have k1 := cell_later hX c1
      have k2 := cell_later hX c2
      have hbr : b < wr.heap.size := block_lt_of_cell k0
      have hrw := Sl.ext (hv.out.2 x (List.mem_of_getElem? hx)) hX
      have hnx := hide (show endsV (L.take (k + 1)) = endsV (L.take k) ++ [(x.1, x.2.1, (x.2.2.1, 1)), (x.1, x.2.1, (x.2.2.2, -1))] by rw [List.take_add_one, hx, Option.toList_some, endsV_snoc])
      have hel : (endsV (L.take k)).length ≤ 2 * k := by rw [endsV_len, List.length_take]; omega
      obtain ⟨xv, xq, xa, xn⟩ := x
      simp only at k0 k1 k2 hrw hnx
      have hrw2 := hide hrw
      obtain ⟨XA, xcap, rfl⟩ := rw_val hrw
      obtain ⟨Q, hQ⟩ : ∃ Q, Q = endsV (L.take k) := ⟨_, rfl⟩
      rw [← hQ] at ho hnx hel
      replace hQ := hide hQ
      obtain ⟨C, ccap, rfl⟩ := own_form ho
      have ho0 := hide ho
      clear c0 c1 c2 hat hx hrw hv ho
      have hone := lit2 (.slice XA xq.length xcap) xq (xa, 1) (xn, -1) (wr.alloc (.cells #[.slice XA xq.length xcap, .int .i64 xa, .int .i64 xn] 48)) (Sl.ext hrw2.out ((Ext.refl wr).alloc _))
      simp only [World.size_alloc] at hone
      replace hone := hide hone
      have hX2 : Ext wr ((wr.alloc (.cells #[.slice XA xq.length xcap, .int .i64 xa, .int .i64 xn] 48)).alloc (.cells #[.slice XA xq.length xcap, .int .i64 xa, .int .i64 1, .slice XA xq.length xcap, .int .i64 xn, .int .i64 (-1)] 71)) := ((Ext.refl wr).alloc _).alloc _
      have e1 : Q.length + 2 ≤ maxLen := by unfold maxLen; omega
      have e2 : (Q.length + 2) * 40 ≤ 140737488355328 := by omega
      have e3 := Nat.le_trans hX.size hX2.size
      replace e1 := hide e1
      replace e2 := hide e2
      replace e3 := hide e3
      have hsl : Sl _ [] 3 _ 2 _ := hone.out.1
      replace hsl := hide hsl
      replace hX2 := hide hX2
      go_wp2_with (at_builtin; (refine wpl_app tEdg rfl (.tmp 18) (.tmp 31) rfl rfl (own_ext ho0.out hX2.out) rfl (src_sl Tryz.underlying32 hsl.out (Ew.one hone.out) (by omega)) e1.out e2.out e3.out ?_; intro v8 w8 ho8 hg8 hob8; have hX8 := hide (ext_grown (hX.trans hX2.out) hg8 (fun q hq => (ho0.out.lt q hq).1))))
      go_roundg (L.length - (k + 1))
      case measure => omega
      case rel => exact ⟨k + 1, by go_num, by omega, by rw [hnx.out]; exact own_appE ho8, hX8.out⟩
    · have hk' : k = L.length := by omega
      have hge : (L.length : Int) ≤ k := by omega
      rw [hk', List.take_length] at ho
      replace hk' := hide hk'
      have hM : Ew wr [] u4 (endsV L) := ⟨Sl.own ho (by simp), fun p hp => by
        obtain ⟨q, hq, e1, e2⟩ := endsV_mem hp
        rw [e1, e2]
        exact Sl.ext (hv.out.2 q hq) hX⟩
      have hn := hide (edgeNorm_c (endsV L) (by rw [endsV_len]; omega) (fun q => Nat.le_trans (jmps_le _ q) (by rw [eds, List.length_map, endsV_len]; omega)) u4 wr hM)
      rw [endsV_eds] at hn
      obtain ⟨C, ccap, rfl⟩ := own_form ho
      clear hat hM ho hv
      go_wp2_with (go_at_call 51; refine hn.out.mono ?_; rintro ee w3 ⟨v3, M, rfl, hM, ho3, hX3⟩)
      go_returns
      exact ⟨_, M, by rw [hE.out]; rfl, by rw [hM, hR2.out], ho3.lower hzX, hX.trans hX3⟩
end Go.Proofs.YtgniebjigphcgaaGreat
