/-
  A helper of ours: no claim of its own. Layer 10 (edge): which edges are in form, which are a table, by the code.
-/
import Derived.Test.YtljkneajdndgjabGreatEdgF
set_option linter.unusedVariables false
set_option linter.unusedSimpArgs false
namespace Go.Proofs.YtljkneajdndgjabGreat
open Go.RowKit
attribute [local go_sem] GW.cell GW.frozen In.eq_true In.le_true In.ne In.ne' In.ne_add In.ne_add' In.lt_add Upto.le_true Upto.le_add Upto.lt_add Oper.semAt_some wide_depth wide_fn
/-- A function that ranges over a function is left ahead of that. -/
theorem ret_plain {P : Program} {fn : Func} {R : Ending → World → Prop} {tmps : Array Value} {W : World} {v : Value} (hr : (results fn tmps).run P W = .ok v W) (hR : R (.returned v) W) :
    bodyPostM Fence.wide 0 P fn R .ret { tmps := tmps, defers := [] } W := ⟨v, hr, hR⟩
theorem all_rows (L : List Ve) : (eds L).all (fun e => mayR e.1) = L.all fun x => mayR x.2.1 := by rw [eds, List.all_map]; rfl
set_option maxHeartbeats 8000000 in
set_option maxRecDepth 100000 in
theorem edgeMay_c (L : List Ve) (v : Value) (w : World) (hC : Ew w [] v L) : Calls Tryz.prog 31 #[v] w fun e w' => e = .returned (.bool (mayE (eds L))) ∧ Ext w w' := by
  have h1 := hide (fun w' (hX : Ext w w') => containsERow_c L v w' (hC.ext hX))
  have h2 := hide (fun (hv : ∀ p ∈ L, mayR p.2.1 = true) w' (hX : Ext w w') => isSorted_c L hv v w' (hC.ext hX))
  obtain ⟨A, cap, rfl, hlc, hlm, -⟩ := ew_form hC
  unfold maxLen at hlm
  obtain ⟨R, hR⟩ : ∃ R, R = mayE (eds L) := ⟨_, rfl⟩
  rw [← hR]
  unfold mayE at hR
  rw [all_rows, List.length_map] at hR
  have ob0 : Ob (w.alloc (.cells #[.bool false] 4)) w.heap.size 4 [.bool false] := Ob.new w _ [.bool false]
  have hX0 : Ext w (w.alloc (.cells #[.bool false] 4)) := (Ext.refl w).alloc _
  have hnw : Hid (∀ k, k < w.heap.size + 1 → True) := fun _ _ => trivial
  refine calls_marks Tryz.func31 rfl ?_
  simp only [Tryz.ntmps31, List.size_toArray, List.length_cons, List.length_nil, Nat.reduceAdd, Nat.reduceSub, Array.replicate_succ, Array.replicate_zero, List.push_toArray, List.append_toArray, List.nil_append, List.cons_append]
  obtain ⟨Wb, hWb⟩ : ∃ Wb, Wb = w.alloc (.cells #[.bool false] 4) := ⟨_, rfl⟩
  rw [← hWb] at ob0 hX0
  have hWs : Wb.heap.size = w.heap.size + 1 := by rw [hWb]; simp
  have hX0h := hide hX0
  by_cases hl : 4096 < L.length
  · have hf := hide (show R = false by rw [hR, decide_eq_false (by omega), Bool.false_and])
    clear hR h1 h2
    go_wp2
    rw [← hWb]
    have q0 := ob0.cell 0 rfl
    exact ret_plain (v := .bool false) (by simp [results, Tryz.f31, go_sem, q0]) ⟨by rw [hf.out], hX0⟩
  have hlI : (L.length : Int) ≤ 4096 := by omega
  rw [decide_eq_true (by omega), Bool.true_and] at hR
  cases ha : L.all fun x => mayR x.2.1
  · rw [ha, Bool.false_and] at hR
    rw [ha] at h1
    replace hR := hide hR
    clear h2
    go_wp2_with (go_at_call 62; (with_reducible refine seq_gw (h1.out _ (by rw [← hWb]; exact hX0h.out)) ?_); intro g)
    have o2 : Ob (g.val.setCell ⟨w.heap.size, 0, none⟩ (.bool false)) w.heap.size 4 [.bool false] := ((hWb ▸ ob0).ext g.grown).set 0 _
    have q2 := o2.cell 0 rfl
    exact ret_plain (v := .bool false) (by simp [results, Tryz.f31, go_sem, q2]) ⟨by rw [hR.out], ((hWb ▸ hX0).trans g.grown).setCell (p := ⟨w.heap.size, 0, none⟩) (by simp) _⟩
  rw [ha, Bool.true_and] at hR
  rw [ha] at h1
  have hv : ∀ p ∈ L, mayR p.2.1 = true := fun p hp => List.all_eq_true.1 ha p hp
  have h3 := hide (h2.out hv)
  clear h2 ha
  cases hs : riseB (eds L)
  · rw [hs, Bool.false_and] at hR
    rw [hs] at h3
    replace hR := hide hR
    go_wp2_with (first | (go_at_call 62; (with_reducible refine seq_gw (h1.out _ (by rw [← hWb]; exact hX0h.out)) ?_); intro g) | (go_at_call 64; (with_reducible refine seq_gw' (h3.out _ ((by rw [← hWb]; exact hX0h.out : Ext w (w.alloc (.cells #[.bool false] 4))).trans g.grown)) ?_); intro g2))
    have o2 : Ob (g2.val.setCell ⟨w.heap.size, 0, none⟩ (.bool false)) w.heap.size 4 [.bool false] := ((hWb ▸ ob0).ext g2.grown).set 0 _
    have q2 := o2.cell 0 rfl
    exact ret_plain (v := .bool false) (by simp [results, Tryz.f31, go_sem, q2]) ⟨by rw [hR.out], ((hWb ▸ hX0).trans g2.grown).setCell (p := ⟨w.heap.size, 0, none⟩) (by simp) _⟩
  rw [hs, Bool.true_and] at hR
  rw [hs] at h3
  have hRf : Hid (∀ g ∈ grp (eds L), mayJ g.2 = false → R = false) := fun g hg h => by
    rw [hR, ← Bool.not_eq_true, List.all_eq_true]
    intro k
    have := k g hg
    rw [h] at this; cases this
  have hRt : Hid ((∀ g ∈ grp (eds L), mayJ g.2 = true) → R = true) := fun h => by rw [hR, List.all_eq_true]; exact h
  clear hR hs
  replace hv := hide hv
  replace hC := hide hC
  go_wp2_with (first | (go_at_call 62; (with_reducible refine seq_gw (h1.out _ (by rw [← hWb]; exact hX0h.out)) ?_); intro g) | (go_at_call 64; (with_reducible refine seq_gw' (h3.out _ ((by rw [← hWb]; exact hX0h.out : Ext w (w.alloc (.cells #[.bool false] 4))).trans g.grown)) ?_); intro g2) | (go_at_call 60; refine (functions_c _ _ _ _).mono ?_; rintro ee w1 ⟨b, rfl, hb, hle, hX1⟩))
  have hX2 := hide (((hWb ▸ hX0 : Ext w (w.alloc (.cells #[.bool false] 4))).trans g2.grown).trans hX1)
  have o1 : Ob w1 w.heap.size 4 [.bool false] := (((hWb ▸ ob0 : Ob (w.alloc (.cells #[.bool false] 4)) w.heap.size 4 [.bool false])).ext g2.grown).ext hX1
  have hz2 := hX2.out.size
  have hlw := o1.lt
  clear h1 h3 hX1 hle hWs hWb ob0 hX0 hX0h
  refine wp_range (xs := grp (eds L)) rfl (enters_of Tryz.func108 (by kernel_rfl) rfl) (functions_seq L _ w w1 b hC.out (by omega) hX2.out hb) (Ext.refl _) hX2.out.size (fun x vs W h => h.size) (fun x vs => Hg.stab x vs)
    (fun k W => Ob W w.heap.size 4 [.bool false] ∧ (Ext w W ∧ ∀ g ∈ (grp (eds L)).take k, mayJ g.2 = true))
    (fun c k W => ((c = .ret ∧ R = false) ∧ Ob W w.heap.size 4 [.bool false]) ∧ Ext w W)
    (fun k => (Stab.ob _ _ _).and ((Stab.of_ext hz2).and (Stab.pure _)))
    (fun c k => ((Stab.pure _).and (Stab.ob _ _ _)).and (Stab.of_ext hz2))
    ⟨o1, hX2.out, by simp⟩
    (fun k x vs a' _ => ∃ r f, vs = #[r, f] ∧ a' = { tmps := #[.slice A L.length cap, undef, .pointer (some ⟨w.heap.size, 0, none⟩), undef, f, .slice A L.length cap, .int .i64 L.length, .bool (decide ((4096 : Int) < L.length)), .bool (decide ((4096 : Int) < L.length)), .slice A L.length cap, .bool false, .bool (decide ((4096 : Int) < L.length)), .bool (decide ((4096 : Int) < L.length)), .slice A L.length cap, .bool true, .bool false, .bool (decide ((4096 : Int) < L.length)), .slice A L.length cap, .func (.func 108) #[] #[.pointer (some ⟨b, 0, none⟩)], r, f, undef, undef, undef], defers := [] })
    (fun k x vs a' => Stab.pure _) ?assign ?body ?done ?stop
  case assign =>
    rintro LL k x vs W K _ ⟨r, f, rfl, -, -⟩ hK
    gi_wp2
    exact hK _ _ (Ext.refl _) ⟨r, f, rfl, rfl⟩
  case body =>
    rintro LL k x vs a' W hx ⟨o0, hXw, hno⟩ ⟨r', f', e', hr, hf⟩ ⟨r, f, rfl, rfl⟩
    obtain ⟨rfl, rfl⟩ : r = r' ∧ f = f' := by simpa using e'
    obtain ⟨q, J⟩ := x
    have q0 := o0.cell 0 rfl
    have hfr := o0.free 0
    have hcall := hide (stepMay_c J f W hf)
    have hzW := hXw.size
    have hmem : ∀ y ∈ [w.heap.size], ∃ T vs, Ob W y T vs := by intro y hy; simp at hy; subst hy; exact ⟨_, _, o0⟩
    replace hmem := hide hmem
    have hltW := o0.lt
    have hgm : (q, J) ∈ grp (eds L) := List.mem_of_getElem? hx
    haveI : In w.heap.size W := ⟨hltW⟩
    obtain ⟨JA, jcap, rfl, -, -, -⟩ := jw_form hf
    cases hm : mayJ J
    · rw [hm] at hcall
      have hR0 := hide (hRf.out (q, J) hgm hm)
      clear hx hm hgm
      gi_wp2_with (gi_at_call 54; (with_reducible refine seq_gi hcall.out ?_); intro g)
      exact ⟨keeps_fr (S := [w.heap.size]) ((Fr.of_ext g.grown).setCell _ _ (.inl (by simp))) hmem.out, ⟨⟨rfl, hR0.out⟩, (o0.ext g.grown).set 0 _⟩, (hXw.trans g.grown).setCell (p := ⟨w.heap.size, 0, none⟩) (by simp) _⟩
    · rw [hm] at hcall
      have hno2 := hide (show ∀ g ∈ (grp (eds L)).take (k + 1), mayJ g.2 = true from fun g hg => by
        rw [List.take_add_one, hx] at hg
        rcases List.mem_append.1 hg with hg | hg
        · exact hno g hg
        · obtain rfl : g = (q, J) := by simpa using hg
          exact hm)
      clear hx hm hgm hno
      gi_wp2_with (gi_at_call 54; (with_reducible refine seq_gi hcall.out ?_); intro g)
      exact ⟨keeps_ext g.grown, below_fr (S := []) (Fr.of_ext g.grown) hzW (by simp), o0.ext g.grown, hXw.trans g.grown, hno2.out⟩
  case done =>
    rintro D W hD ⟨o0, hXw, hno⟩ hK
    rw [List.take_of_length_le (Nat.le_refl _)] at hno
    have hRf2 := hide (hRt.out hno)
    have q1 := o0.cell 0 rfl
    have hfr := o0.free 0
    clear hno
    go_wp2
    have hK2 := (KeepsOthers.setCell W ⟨w.heap.size, 0, none⟩ (.bool true)).same D _ hK rfl
    have o2 : Ob (W.setCell ⟨w.heap.size, 0, none⟩ (.bool true)) w.heap.size 4 [.bool true] := o0.set 0 _
    have q2 := (ob_put (o' := .deferred none) hK2 rfl o2).cell 0 rfl
    refine ret_mark hK2 (v := .bool true) ?_ ⟨by rw [hRf2.out], put_ext (hXw.setCell (p := ⟨w.heap.size, 0, none⟩) (by simp) _) (by omega) _⟩
    simp [results, Tryz.f31, go_sem, q2]
  case stop =>
    rintro D c k W hD hk ⟨⟨⟨rfl, hna⟩, o0⟩, hXw⟩ hK
    have hRf2 := hide hna
    go_wp2
    have q2 := (ob_put (o' := .deferred none) hK rfl o0).cell 0 rfl
    refine ret_mark hK (v := .bool false) ?_ ⟨by rw [hRf2.out], put_ext hXw (by omega) _⟩
    simp [results, Tryz.f31, go_sem, q2]

set_option maxHeartbeats 8000000 in
set_option maxRecDepth 100000 in
theorem edgeTable_c (L : List Ve) (v : Value) (w : World) (hC : Ew w [] v L) : Calls Tryz.prog 30 #[v] w fun e w' => e = .returned (.bool (tabE (eds L))) ∧ Ext w w' := by
  have h1 := hide (fun w' (hX : Ext w w') => edgeMay_c L v w' (hC.ext hX))
  obtain ⟨A, cap, rfl, hlc, hlm, -⟩ := ew_form hC
  unfold maxLen at hlm
  obtain ⟨R, hR⟩ : ∃ R, R = tabE (eds L) := ⟨_, rfl⟩
  rw [← hR]
  unfold tabE at hR
  have ob0 : Ob (w.alloc (.cells #[.bool false] 4)) w.heap.size 4 [.bool false] := Ob.new w _ [.bool false]
  have hX0 : Ext w (w.alloc (.cells #[.bool false] 4)) := (Ext.refl w).alloc _
  have hX0h := hide hX0
  refine calls_marks Tryz.func30 rfl ?_
  simp only [Tryz.ntmps30, List.size_toArray, List.length_cons, List.length_nil, Nat.reduceAdd, Nat.reduceSub, Array.replicate_succ, Array.replicate_zero, List.push_toArray, List.append_toArray, List.nil_append, List.cons_append]
  cases ha : mayE (eds L)
  · rw [ha, Bool.false_and] at hR
    rw [ha] at h1
    replace hR := hide hR
    go_wp2_with (go_at_call 31; (with_reducible refine seq_gw (h1.out _ hX0h.out) ?_); intro g)
    have o2 : Ob (g.val.setCell ⟨w.heap.size, 0, none⟩ (.bool false)) w.heap.size 4 [.bool false] := (ob0.ext g.grown).set 0 _
    have q2 := o2.cell 0 rfl
    exact ret_plain (v := .bool false) (by simp [results, Tryz.f30, go_sem, q2]) ⟨by rw [hR.out], (hX0.trans g.grown).setCell (p := ⟨w.heap.size, 0, none⟩) (by simp) _⟩
  have hL4 : L.length ≤ 4096 := by have := (mayE_iff.1 ha).1; simpa [eds] using this
  rw [ha, Bool.true_and] at hR
  rw [ha] at h1
  have hRf : Hid (∀ g ∈ grp (eds L), leV g.2 < 0 → R = false) := fun g hg h => by
    rw [hR, ← Bool.not_eq_true, List.all_eq_true]
    intro k
    have := k g hg
    rw [decide_eq_true_iff] at this; omega
  have hRt : Hid ((∀ g ∈ grp (eds L), 0 ≤ leV g.2) → R = true) := fun h => by rw [hR, List.all_eq_true]; exact fun g hg => decide_eq_true (h g hg)
  clear hR ha
  replace hC := hide hC
  go_wp2_with (first | (go_at_call 31; (with_reducible refine seq_gw (h1.out _ hX0h.out) ?_); intro g2) | (go_at_call 60; refine (functions_c _ _ _ _).mono ?_; rintro ee w1 ⟨b, rfl, hb, hle, hX1⟩))
  have hX2 := hide ((hX0.trans g2.grown).trans hX1)
  have o1 : Ob w1 w.heap.size 4 [.bool false] := (ob0.ext g2.grown).ext hX1
  have hz2 := hX2.out.size
  have hlw := o1.lt
  clear h1 hX1 hle ob0 hX0 hX0h
  refine wp_range (xs := grp (eds L)) rfl (enters_of Tryz.func108 (by kernel_rfl) rfl) (functions_seq L _ w w1 b hC.out (by omega) hX2.out hb) (Ext.refl _) hX2.out.size (fun x vs W h => h.size) (fun x vs => Hg.stab x vs)
    (fun k W => Ob W w.heap.size 4 [.bool false] ∧ (Ext w W ∧ ∀ g ∈ (grp (eds L)).take k, 0 ≤ leV g.2))
    (fun c k W => ((c = .ret ∧ R = false) ∧ Ob W w.heap.size 4 [.bool false]) ∧ Ext w W)
    (fun k => (Stab.ob _ _ _).and ((Stab.of_ext hz2).and (Stab.pure _)))
    (fun c k => ((Stab.pure _).and (Stab.ob _ _ _)).and (Stab.of_ext hz2))
    ⟨o1, hX2.out, by simp⟩
    (fun k x vs a' _ => ∃ r f, vs = #[r, f] ∧ a' = { tmps := #[.slice A L.length cap, undef, .pointer (some ⟨w.heap.size, 0, none⟩), undef, f, .slice A L.length cap, .bool true, .bool false, .slice A L.length cap, .func (.func 108) #[] #[.pointer (some ⟨b, 0, none⟩)], r, f, undef, undef, undef], defers := [] })
    (fun k x vs a' => Stab.pure _) ?assign ?body ?done ?stop
  case assign =>
    rintro LL k x vs W K _ ⟨r, f, rfl, -, -⟩ hK
    gi_wp2
    exact hK _ _ (Ext.refl _) ⟨r, f, rfl, rfl⟩
  case body =>
    rintro LL k x vs a' W hx ⟨o0, hXw, hno⟩ ⟨r', f', e', hr, hf⟩ ⟨r, f, rfl, rfl⟩
    obtain ⟨rfl, rfl⟩ : r = r' ∧ f = f' := by simpa using e'
    obtain ⟨q, J⟩ := x
    have q0 := o0.cell 0 rfl
    have hfr := o0.free 0
    have hcall := hide (stepLeast_c J f W hf)
    have hzW := hXw.size
    have hmem : ∀ y ∈ [w.heap.size], ∃ T vs, Ob W y T vs := by intro y hy; simp at hy; subst hy; exact ⟨_, _, o0⟩
    replace hmem := hide hmem
    have hltW := o0.lt
    have hgm : (q, J) ∈ grp (eds L) := List.mem_of_getElem? hx
    haveI : In w.heap.size W := ⟨hltW⟩
    obtain ⟨JA, jcap, rfl, -, -, -⟩ := jw_form hf
    by_cases hm : leV J < 0
    · have hR0 := hide (hRf.out (q, J) hgm hm)
      generalize leV J = z at *
      clear hx hgm
      gi_wp2_with (gi_at_call 61; (with_reducible refine seq_gi hcall.out ?_); intro g)
      exact ⟨keeps_fr (S := [w.heap.size]) ((Fr.of_ext g.grown).setCell _ _ (.inl (by simp))) hmem.out, ⟨⟨rfl, hR0.out⟩, (o0.ext g.grown).set 0 _⟩, (hXw.trans g.grown).setCell (p := ⟨w.heap.size, 0, none⟩) (by simp) _⟩
    · have hno2 := hide (show ∀ g ∈ (grp (eds L)).take (k + 1), 0 ≤ leV g.2 from fun g hg => by
        rw [List.take_add_one, hx] at hg
        rcases List.mem_append.1 hg with hg | hg
        · exact hno g hg
        · obtain rfl : g = (q, J) := by simpa using hg
          exact Int.not_lt.1 hm)
      replace hno := hide hno
      have hm' : 0 ≤ leV J := Int.not_lt.1 hm
      generalize leV J = z at *
      clear hx hgm
      gi_wp2_with (gi_at_call 61; (with_reducible refine seq_gi hcall.out ?_); intro g)
      exact ⟨keeps_ext g.grown, below_fr (S := []) (Fr.of_ext g.grown) hzW (by simp), o0.ext g.grown, hXw.trans g.grown, hno2.out⟩
  case done =>
    rintro D W hD ⟨o0, hXw, hno⟩ hK
    rw [List.take_of_length_le (Nat.le_refl _)] at hno
    have hRf2 := hide (hRt.out hno)
    have q1 := o0.cell 0 rfl
    have hfr := o0.free 0
    clear hno
    go_wp2
    have hK2 := (KeepsOthers.setCell W ⟨w.heap.size, 0, none⟩ (.bool true)).same D _ hK rfl
    have o2 : Ob (W.setCell ⟨w.heap.size, 0, none⟩ (.bool true)) w.heap.size 4 [.bool true] := o0.set 0 _
    have q2 := (ob_put (o' := .deferred none) hK2 rfl o2).cell 0 rfl
    refine ret_mark hK2 (v := .bool true) ?_ ⟨by rw [hRf2.out], put_ext (hXw.setCell (p := ⟨w.heap.size, 0, none⟩) (by simp) _) (by omega) _⟩
    simp [results, Tryz.f30, go_sem, q2]
  case stop =>
    rintro D c k W hD hk ⟨⟨⟨rfl, hna⟩, o0⟩, hXw⟩ hK
    have hRf2 := hide hna
    go_wp2
    have q2 := (ob_put (o' := .deferred none) hK rfl o0).cell 0 rfl
    refine ret_mark hK (v := .bool false) ?_ ⟨by rw [hRf2.out], put_ext hXw (by omega) _⟩
    simp [results, Tryz.f30, go_sem, q2]

end Go.Proofs.YtljkneajdndgjabGreat
