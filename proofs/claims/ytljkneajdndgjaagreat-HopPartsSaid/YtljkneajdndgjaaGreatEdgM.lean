/-
  A helper of ours: no claim of its own. Layer 10 (edge): which edges are in form, which are a table, by the code.
-/
import Derived.Test.YtljkneajdndgjaaGreatStepR
import Derived.Test.YtljkneajdndgjaaGreatRfw
import Derived.Test.YtljkneajdndgjaaGreatEdgF
set_option linter.unusedVariables false
set_option linter.unusedSimpArgs false
namespace Go.Proofs.YtljkneajdndgjaaGreat
open Go.RowKit
/-- What is asked of an end that is no leave. -/
def onlyN (Q : Exit → Act → World → Prop) : Exit → Act → World → Prop
  | .normal, a, w => Q .normal a w
  | _, _, _ => False
theorem onlyN_out {Q : Exit → Act → World → Prop} (h : LetsOut (onlyN Q)) : False := by obtain ⟨a, w, h⟩ := h; exact h
def noDefer (o : Oper) : Bool := match o.op with | .defer _ => false | _ => true
theorem noDefer_spec {o : Oper} (h : noDefer o = true) : ∀ c, o.op ≠ .defer c := fun c e => by unfold noDefer at h; rw [e] at h; cases h
section
variable {P : Program} {l n : Nat} {ops : Array Oper} {Q : Exit → Act → World → Prop}
theorem opIn_of_op {o : Oper} {a : Act} {w : World} {K : Act → World → Prop} (hd : noDefer o = true) (h : o.wp P a w K (onlyN Q)) : o.wpIn (Fence.wide.inRound l) n P a w K Q := by
  unfold Oper.wpIn
  refine ⟨fun _ _ => trivial, ?_⟩
  rw [show (Fence.wide.inRound l).round = some l from rfl, Oper.semAt_some l _ _ (noDefer_spec hd)]
  unfold Oper.wp at h
  generalize (execOp a.eval o).run P w = r at *
  cases r with
  | ok x w' =>
    cases x <;> simp only [Oper.upon, Oper.uponIn] at h ⊢
    all_goals first
      | exact h
      | exact ⟨fun h => by simp [Fence.wide] at h, in_round (h.mono fun e w'' he => by
          cases e with
          | returned v => exact he
          | panicked ch => exact he.elim
          | outgrown => exact (onlyN_out he).elim)⟩
      | exact ⟨fun h => by simp [Fence.wide] at h, fun c cs _ => let ⟨v, w', r, s⟩ := h c cs; ⟨v, w', r, stepsIn_wide.2 s⟩⟩
  | halt x w' =>
    cases x <;> simp only [Oper.upon, Oper.uponIn] at h ⊢
    all_goals first
      | exact h.elim
      | exact h
theorem anyIn_of_any (hd : ∀ (i : Nat) (o : Oper), ops[i]? = some o → noDefer o = true) : ∀ (f : Nat) (listed : Array Bool) (a : Act) (w : World), wpAny P .any ops (onlyN Q) f listed a w → wpAnyIn (Fence.wide.inRound l) n P .any ops Q f listed a w
  | 0, listed, a, w, h => h
  | f + 1, listed, a, w, h => by
    refine ⟨fun hr => h.1 hr, fun i hi => ?_⟩
    have h2 := h.2 i hi
    unfold wpOp at h2
    unfold wpOpIn
    split
    · rename_i ho
      simp only [ho] at h2
      exact anyIn_of_any hd f _ _ _ h2
    · rename_i o ho
      simp only [ho] at h2
      split
      · rename_i hw
        simp only [hw, if_true] at h2
        rcases h2 with h2 | ⟨_, h2⟩
        · exact opIn_of_op (hd i o ho) (Oper.wp_mono (fun a w hk => anyIn_of_any hd f _ a w hk) h2)
        · exact (onlyN_out h2).elim
      · rename_i hw
        simp only [hw] at h2
        exact ⟨fun _ _ => trivial, anyIn_of_any hd f _ _ _ h2⟩
end
section
variable {P : Program} {ops : Array Oper} {Q : Exit → Act → World → Prop} {a : Act}
theorem wpIn_region_list_tail {l m id : Nat} {w : World} (n : Nat) (L : List Fact) (hdf : ops.toList.all noDefer = true) (hm : P.follows .mixedOrders = true) (hA : acycB ops = true) (hD : dstsB ops a.tmps.size = true)
    (hn : decide (n < ops.size) = true) (hs : Region.sinkB .any ops n = true) (hc : Region.chainB .any ops n = true) (hq : Region.seqB .any ops (ops.size - n) n (Array.replicate n true ++ Array.replicate (ops.size - n) false) = true)
    (hstep : RSteps (fun k o => ∀ b w', RAt ops (factsOf L) a w k b w' → (∀ t, t ∉ dstsOf (ops.toList.take n).toArray → b.tmps.getD t undef = a.tmps.getD t undef) → RGood P ops (factsOf L) (onlyN Q) k o b w') 0 (ops.toList.take n))
    (hend : ∀ b w', Ext w w' → b.defers = a.defers → b.tmps.size = a.tmps.size → (∀ t, t ∉ dstsOf (ops.toList.take n).toArray → b.tmps.getD t undef = a.tmps.getD t undef) →
      (∀ j o d, j < n → ops[j]? = some o → o.dst = some d → factsOf L j (b.tmps.getD d undef) w') → wpList P ops (onlyN Q) (ops.toList.drop n) b w') : (Code.region id ops true).wpIn (Fence.wide.inRound l) m P Q a w := by
  have hn' := of_decide_eq_true hn
  have hd : ∀ (i : Nat) (o : Oper), ops[i]? = some o → noDefer o = true := fun i o ho => List.all_eq_true.1 hdf o (List.mem_of_getElem? (by rw [Array.getElem?_toList]; exact ho))
  refine wpIn_region_any hm (anyIn_of_any hd _ _ _ _ ?_)
  have := wpAny_facts_tail (P := P) (Φ := factsOf L) (Q := onlyN Q) (W := w) hA hD hn' hs hc hq (fun i v w w' h hx => Fact.stays _ v w w' h hx) (fun i o hi ho b w' h hE => by
    have := RSteps.get 0 (ops.toList.take n) hstep i o (by rw [List.getElem?_take, if_pos hi]; simpa using ho) b w'
    rw [Nat.zero_add] at this
    exact this h hE) (fun b w' h1 h2 h3 _ h5 h6 => hend b w' h1 h2 h3 h6 h5) n (Array.replicate ops.size false) a { w with drawn := w.drawn + 1 } ⟨(Ext.refl w).drew, rfl, rfl, by simp, fun _ _ => rfl, fun j o d ho hl _ => ?_⟩ (fun _ _ => rfl)
    ⟨by simp, fun j oj _ hl => (by rw [getD_replicate_false] at hl; cases hl), fun t _ ht => getD_in (by simpa using ht) (getD_replicate_false _ _)⟩ (by
      rw [Array.toList_replicate, List.take_replicate, cntF_rep]; omega)
  · rwa [show n + (ops.size - n) = ops.size by omega] at this
  · rw [getD_replicate_false] at hl; cases hl
end
end Go.Proofs.YtljkneajdndgjaaGreat
set_option linter.unusedVariables false
set_option linter.unusedSimpArgs false
namespace Go.Proofs.YtljkneajdndgjaaGreat
open Go.RowKit
attribute [local go_sem] GW.cell GW.frozen In.eq_true In.le_true In.ne In.ne' In.ne_add In.ne_add' In.lt_add Upto.le_true Upto.le_add Upto.lt_add Oper.semAt_some wide_depth wide_fn
/-- A function that ranges over a function is left ahead of that. -/
theorem ret_plain {P : Program} {fn : Func} {R : Ending → World → Prop} {tmps : Array Value} {W : World} {v : Value} (hr : (results fn tmps).run P W = .ok v W) (hR : R (.returned v) W) :
    bodyPostM Fence.wide 0 P fn R .ret { tmps := tmps, defers := [] } W := ⟨v, hr, hR⟩
theorem all_rows (L : List Ve) : (eds L).all (fun e => mayR e.1) = L.all fun x => mayR x.2.1 := by rw [eds, List.all_map]; rfl
set_option maxHeartbeats 8000000 in
set_option maxRecDepth 100000 in
theorem edgeMay_c (L : List Ve) (v : Value) (w : World) (hC : Ew w [] v L) : Calls Tryz.prog 45 #[v] w fun e w' => e = .returned (.bool (mayE (eds L))) ∧ Ext w w' := by
  have h1 := hide (fun w' (hX : Ext w w') => containsERow_c L v w' (hC.ext hX))
  have h2 := hide (fun (hv : ∀ p ∈ L, mayR p.2.1 = true) w' (hX : Ext w w') => isSorted_c L hv v w' (hC.ext hX))
  obtain ⟨A, cap, rfl, hlc, hlm, -⟩ := ew_form hC
  unfold maxLen at hlm
  obtain ⟨R, hR⟩ : ∃ R, R = mayE (eds L) := ⟨_, rfl⟩
  rw [← hR]
  unfold mayE at hR
  rw [all_rows, List.length_map] at hR
  have ob0 : Ob (w.alloc (.cells #[.bool false] 4)) w.heap.size 4 [.bool false] := Ob.new w _ [.bool false]
  have hX0 : Ext w (w.alloc (.cells #[.bool false] 4)) := (Ext.refl w).alloc _
  have hnw : Hid (∀ k, k < w.heap.size + 1 → True) := fun _ _ => trivial
  refine calls_marks Tryz.func45 rfl ?_
  simp only [Tryz.ntmps45, List.size_toArray, List.length_cons, List.length_nil, Nat.reduceAdd, Nat.reduceSub, Array.replicate_succ, Array.replicate_zero, List.push_toArray, List.append_toArray, List.nil_append, List.cons_append]
  obtain ⟨Wb, hWb⟩ : ∃ Wb, Wb = w.alloc (.cells #[.bool false] 4) := ⟨_, rfl⟩
  rw [← hWb] at ob0 hX0
  have hWs : Wb.heap.size = w.heap.size + 1 := by rw [hWb]; simp
  have hX0h := hide hX0
  by_cases hl : 4096 < L.length
  · have hf := hide (show R = false by rw [hR, decide_eq_false (by omega), Bool.false_and])
    clear hR h1 h2
    go_wp2
    rw [← hWb]
    have q0 := ob0.cell 0 rfl
    exact ret_plain (v := .bool false) (by simp [results, Tryz.f45, go_sem, q0]) ⟨by rw [hf.out], hX0⟩
  have hlI : (L.length : Int) ≤ 4096 := by omega
  rw [decide_eq_true (by omega), Bool.true_and] at hR
  cases ha : L.all fun x => mayR x.2.1
  · rw [ha, Bool.false_and] at hR
    rw [ha] at h1
    replace hR := hide hR
    clear h2
    go_wp2_with (go_at_call 75; (with_reducible refine seq_gw (h1.out _ (by rw [← hWb]; exact hX0h.out)) ?_); intro g)
    have o2 : Ob (g.val.setCell ⟨w.heap.size, 0, none⟩ (.bool false)) w.heap.size 4 [.bool false] := ((hWb ▸ ob0).ext g.grown).set 0 _
    have q2 := o2.cell 0 rfl
    exact ret_plain (v := .bool false) (by simp [results, Tryz.f45, go_sem, q2]) ⟨by rw [hR.out], ((hWb ▸ hX0).trans g.grown).setCell (p := ⟨w.heap.size, 0, none⟩) (by simp) _⟩
  rw [ha, Bool.true_and] at hR
  rw [ha] at h1
  have hv : ∀ p ∈ L, mayR p.2.1 = true := fun p hp => List.all_eq_true.1 ha p hp
  have h3 := hide (h2.out hv)
  clear h2 ha
  cases hs : riseB (eds L)
  · rw [hs, Bool.false_and] at hR
    rw [hs] at h3
    replace hR := hide hR
    go_wp2_with (first | (go_at_call 75; (with_reducible refine seq_gw (h1.out _ (by rw [← hWb]; exact hX0h.out)) ?_); intro g) | (go_at_call 97; (with_reducible refine seq_gw' (h3.out _ ((by rw [← hWb]; exact hX0h.out : Ext w (w.alloc (.cells #[.bool false] 4))).trans g.grown)) ?_); intro g2))
    have o2 : Ob (g2.val.setCell ⟨w.heap.size, 0, none⟩ (.bool false)) w.heap.size 4 [.bool false] := ((hWb ▸ ob0).ext g2.grown).set 0 _
    have q2 := o2.cell 0 rfl
    exact ret_plain (v := .bool false) (by simp [results, Tryz.f45, go_sem, q2]) ⟨by rw [hR.out], ((hWb ▸ hX0).trans g2.grown).setCell (p := ⟨w.heap.size, 0, none⟩) (by simp) _⟩
  rw [hs, Bool.true_and] at hR
  rw [hs] at h3
  have hRf : Hid (∀ g ∈ grp (eds L), mayJ g.2 = false → R = false) := fun g hg h => by
    rw [hR, ← Bool.not_eq_true, List.all_eq_true]
    intro k
    have := k g hg
    rw [h] at this; cases this
  have hRt : Hid ((∀ g ∈ grp (eds L), mayJ g.2 = true) → R = true) := fun h => by rw [hR, List.all_eq_true]; exact h
  clear hR hs
  replace hv := hide hv
  replace hC := hide hC
  go_wp2_with (first | (go_at_call 75; (with_reducible refine seq_gw (h1.out _ (by rw [← hWb]; exact hX0h.out)) ?_); intro g) | (go_at_call 97; (with_reducible refine seq_gw' (h3.out _ ((by rw [← hWb]; exact hX0h.out : Ext w (w.alloc (.cells #[.bool false] 4))).trans g.grown)) ?_); intro g2) | (go_at_call 98; refine (functions_c _ _ _ _).mono ?_; rintro ee w1 ⟨b, rfl, hb, hle, hX1⟩))
  have hX2 := hide (((hWb ▸ hX0 : Ext w (w.alloc (.cells #[.bool false] 4))).trans g2.grown).trans hX1)
  have o1 : Ob w1 w.heap.size 4 [.bool false] := (((hWb ▸ ob0 : Ob (w.alloc (.cells #[.bool false] 4)) w.heap.size 4 [.bool false])).ext g2.grown).ext hX1
  have hz2 := hX2.out.size
  have hlw := o1.lt
  clear h1 h3 hX1 hle hWs hWb ob0 hX0 hX0h
  refine wp_range (xs := grp (eds L)) rfl (enters_of Tryz.func141 (by kernel_rfl) rfl) (functions_seq L _ w w1 b hC.out (by omega) hX2.out hb) (Ext.refl _) hX2.out.size (fun x vs W h => h.size) (fun x vs => Hg.stab x vs)
    (fun k W => Ob W w.heap.size 4 [.bool false] ∧ (Ext w W ∧ ∀ g ∈ (grp (eds L)).take k, mayJ g.2 = true))
    (fun c k W => ((c = .ret ∧ R = false) ∧ Ob W w.heap.size 4 [.bool false]) ∧ Ext w W)
    (fun k => (Stab.ob _ _ _).and ((Stab.of_ext hz2).and (Stab.pure _)))
    (fun c k => ((Stab.pure _).and (Stab.ob _ _ _)).and (Stab.of_ext hz2))
    ⟨o1, hX2.out, by simp⟩
    (fun k x vs a' _ => ∃ r f, vs = #[r, f] ∧ a' = { tmps := #[.slice A L.length cap, undef, .pointer (some ⟨w.heap.size, 0, none⟩), undef, f, .slice A L.length cap, .int .i64 L.length, .bool (decide ((4096 : Int) < L.length)), .bool (decide ((4096 : Int) < L.length)), .slice A L.length cap, .bool false, .bool (decide ((4096 : Int) < L.length)), .bool (decide ((4096 : Int) < L.length)), .slice A L.length cap, .bool true, .bool false, .bool (decide ((4096 : Int) < L.length)), .slice A L.length cap, .func (.func 141) #[] #[.pointer (some ⟨b, 0, none⟩)], r, f, undef, undef, undef], defers := [] })
    (fun k x vs a' => Stab.pure _) ?assign ?body ?done ?stop
  case assign =>
    rintro LL k x vs W K _ ⟨r, f, rfl, -, -⟩ hK
    gi_wp2
    exact hK _ _ (Ext.refl _) ⟨r, f, rfl, rfl⟩
  case body =>
    rintro LL k x vs a' W hx ⟨o0, hXw, hno⟩ ⟨r', f', e', hr, hf⟩ ⟨r, f, rfl, rfl⟩
    obtain ⟨rfl, rfl⟩ : r = r' ∧ f = f' := by simpa using e'
    obtain ⟨q, J⟩ := x
    have q0 := o0.cell 0 rfl
    have hfr := o0.free 0
    have hcall := hide (stepMay_c J f W hf)
    have hzW := hXw.size
    have hmem : ∀ y ∈ [w.heap.size], ∃ T vs, Ob W y T vs := by intro y hy; simp at hy; subst hy; exact ⟨_, _, o0⟩
    replace hmem := hide hmem
    have hltW := o0.lt
    have hgm : (q, J) ∈ grp (eds L) := List.mem_of_getElem? hx
    haveI : In w.heap.size W := ⟨hltW⟩
    obtain ⟨JA, jcap, rfl, -, -, -⟩ := jw_form hf
    cases hm : mayJ J
    · rw [hm] at hcall
      have hR0 := hide (hRf.out (q, J) hgm hm)
      clear hx hm hgm
      gi_wp2_with (gi_at_call 99; (with_reducible refine seq_gi hcall.out ?_); intro g)
      exact ⟨keeps_fr (S := [w.heap.size]) ((Fr.of_ext g.grown).setCell _ _ (.inl (by simp))) hmem.out, ⟨⟨rfl, hR0.out⟩, (o0.ext g.grown).set 0 _⟩, (hXw.trans g.grown).setCell (p := ⟨w.heap.size, 0, none⟩) (by simp) _⟩
    · rw [hm] at hcall
      have hno2 := hide (show ∀ g ∈ (grp (eds L)).take (k + 1), mayJ g.2 = true from fun g hg => by
        rw [List.take_add_one, hx] at hg
        rcases List.mem_append.1 hg with hg | hg
        · exact hno g hg
        · obtain rfl : g = (q, J) := by simpa using hg
          exact hm)
      clear hx hm hgm hno
      gi_wp2_with (gi_at_call 99; (with_reducible refine seq_gi hcall.out ?_); intro g)
      exact ⟨keeps_ext g.grown, below_fr (S := []) (Fr.of_ext g.grown) hzW (by simp), o0.ext g.grown, hXw.trans g.grown, hno2.out⟩
  case done =>
    rintro D W hD ⟨o0, hXw, hno⟩ hK
    rw [List.take_of_length_le (Nat.le_refl _)] at hno
    have hRf2 := hide (hRt.out hno)
    have q1 := o0.cell 0 rfl
    have hfr := o0.free 0
    clear hno
    go_wp2
    have hK2 := (KeepsOthers.setCell W ⟨w.heap.size, 0, none⟩ (.bool true)).same D _ hK rfl
    have o2 : Ob (W.setCell ⟨w.heap.size, 0, none⟩ (.bool true)) w.heap.size 4 [.bool true] := o0.set 0 _
    have q2 := (ob_put (o' := .deferred none) hK2 rfl o2).cell 0 rfl
    refine ret_mark hK2 (v := .bool true) ?_ ⟨by rw [hRf2.out], put_ext (hXw.setCell (p := ⟨w.heap.size, 0, none⟩) (by simp) _) (by omega) _⟩
    simp [results, Tryz.f45, go_sem, q2]
  case stop =>
    rintro D c k W hD hk ⟨⟨⟨rfl, hna⟩, o0⟩, hXw⟩ hK
    have hRf2 := hide hna
    go_wp2
    have q2 := (ob_put (o' := .deferred none) hK rfl o0).cell 0 rfl
    refine ret_mark hK (v := .bool false) ?_ ⟨by rw [hRf2.out], put_ext hXw (by omega) _⟩
    simp [results, Tryz.f45, go_sem, q2]

set_option maxHeartbeats 8000000 in
set_option maxRecDepth 100000 in
theorem edgeTable_c (L : List Ve) (v : Value) (w : World) (hC : Ew w [] v L) : Calls Tryz.prog 54 #[v] w fun e w' => e = .returned (.bool (tabE (eds L))) ∧ Ext w w' := by
  have h1 := hide (fun w' (hX : Ext w w') => edgeMay_c L v w' (hC.ext hX))
  obtain ⟨A, cap, rfl, hlc, hlm, -⟩ := ew_form hC
  unfold maxLen at hlm
  obtain ⟨R, hR⟩ : ∃ R, R = tabE (eds L) := ⟨_, rfl⟩
  rw [← hR]
  unfold tabE at hR
  have ob0 : Ob (w.alloc (.cells #[.bool false] 4)) w.heap.size 4 [.bool false] := Ob.new w _ [.bool false]
  have hX0 : Ext w (w.alloc (.cells #[.bool false] 4)) := (Ext.refl w).alloc _
  have hX0h := hide hX0
  refine calls_marks Tryz.func54 rfl ?_
  simp only [Tryz.ntmps54, List.size_toArray, List.length_cons, List.length_nil, Nat.reduceAdd, Nat.reduceSub, Array.replicate_succ, Array.replicate_zero, List.push_toArray, List.append_toArray, List.nil_append, List.cons_append]
  cases ha : mayE (eds L)
  · rw [ha, Bool.false_and] at hR
    rw [ha] at h1
    replace hR := hide hR
    go_wp2_with (go_at_call 45; (with_reducible refine seq_gw (h1.out _ hX0h.out) ?_); intro g)
    have o2 : Ob (g.val.setCell ⟨w.heap.size, 0, none⟩ (.bool false)) w.heap.size 4 [.bool false] := (ob0.ext g.grown).set 0 _
    have q2 := o2.cell 0 rfl
    exact ret_plain (v := .bool false) (by simp [results, Tryz.f54, go_sem, q2]) ⟨by rw [hR.out], (hX0.trans g.grown).setCell (p := ⟨w.heap.size, 0, none⟩) (by simp) _⟩
  have hL4 : L.length ≤ 4096 := by have := (mayE_iff.1 ha).1; simpa [eds] using this
  rw [ha, Bool.true_and] at hR
  rw [ha] at h1
  have hRf : Hid (∀ g ∈ grp (eds L), leV g.2 < 0 → R = false) := fun g hg h => by
    rw [hR, ← Bool.not_eq_true, List.all_eq_true]
    intro k
    have := k g hg
    rw [decide_eq_true_iff] at this; omega
  have hRt : Hid ((∀ g ∈ grp (eds L), 0 ≤ leV g.2) → R = true) := fun h => by rw [hR, List.all_eq_true]; exact fun g hg => decide_eq_true (h g hg)
  clear hR ha
  replace hC := hide hC
  go_wp2_with (first | (go_at_call 45; (with_reducible refine seq_gw (h1.out _ hX0h.out) ?_); intro g2) | (go_at_call 98; refine (functions_c _ _ _ _).mono ?_; rintro ee w1 ⟨b, rfl, hb, hle, hX1⟩))
  have hX2 := hide ((hX0.trans g2.grown).trans hX1)
  have o1 : Ob w1 w.heap.size 4 [.bool false] := (ob0.ext g2.grown).ext hX1
  have hz2 := hX2.out.size
  have hlw := o1.lt
  clear h1 hX1 hle ob0 hX0 hX0h
  refine wp_range (xs := grp (eds L)) rfl (enters_of Tryz.func141 (by kernel_rfl) rfl) (functions_seq L _ w w1 b hC.out (by omega) hX2.out hb) (Ext.refl _) hX2.out.size (fun x vs W h => h.size) (fun x vs => Hg.stab x vs)
    (fun k W => Ob W w.heap.size 4 [.bool false] ∧ (Ext w W ∧ ∀ g ∈ (grp (eds L)).take k, 0 ≤ leV g.2))
    (fun c k W => ((c = .ret ∧ R = false) ∧ Ob W w.heap.size 4 [.bool false]) ∧ Ext w W)
    (fun k => (Stab.ob _ _ _).and ((Stab.of_ext hz2).and (Stab.pure _)))
    (fun c k => ((Stab.pure _).and (Stab.ob _ _ _)).and (Stab.of_ext hz2))
    ⟨o1, hX2.out, by simp⟩
    (fun k x vs a' _ => ∃ r f, vs = #[r, f] ∧ a' = { tmps := #[.slice A L.length cap, undef, .pointer (some ⟨w.heap.size, 0, none⟩), undef, f, .slice A L.length cap, .bool true, .bool false, .slice A L.length cap, .func (.func 141) #[] #[.pointer (some ⟨b, 0, none⟩)], r, f, undef, undef, undef], defers := [] })
    (fun k x vs a' => Stab.pure _) ?assign ?body ?done ?stop
  case assign =>
    rintro LL k x vs W K _ ⟨r, f, rfl, -, -⟩ hK
    gi_wp2
    exact hK _ _ (Ext.refl _) ⟨r, f, rfl, rfl⟩
  case body =>
    rintro LL k x vs a' W hx ⟨o0, hXw, hno⟩ ⟨r', f', e', hr, hf⟩ ⟨r, f, rfl, rfl⟩
    obtain ⟨rfl, rfl⟩ : r = r' ∧ f = f' := by simpa using e'
    obtain ⟨q, J⟩ := x
    have q0 := o0.cell 0 rfl
    have hfr := o0.free 0
    have hcall := hide (stepLeast_c J f W hf)
    have hzW := hXw.size
    have hmem : ∀ y ∈ [w.heap.size], ∃ T vs, Ob W y T vs := by intro y hy; simp at hy; subst hy; exact ⟨_, _, o0⟩
    replace hmem := hide hmem
    have hltW := o0.lt
    have hgm : (q, J) ∈ grp (eds L) := List.mem_of_getElem? hx
    haveI : In w.heap.size W := ⟨hltW⟩
    obtain ⟨JA, jcap, rfl, -, -, -⟩ := jw_form hf
    by_cases hm : leV J < 0
    · have hR0 := hide (hRf.out (q, J) hgm hm)
      generalize leV J = z at *
      clear hx hgm
      gi_wp2_with (gi_at_call 105; (with_reducible refine seq_gi hcall.out ?_); intro g)
      exact ⟨keeps_fr (S := [w.heap.size]) ((Fr.of_ext g.grown).setCell _ _ (.inl (by simp))) hmem.out, ⟨⟨rfl, hR0.out⟩, (o0.ext g.grown).set 0 _⟩, (hXw.trans g.grown).setCell (p := ⟨w.heap.size, 0, none⟩) (by simp) _⟩
    · have hno2 := hide (show ∀ g ∈ (grp (eds L)).take (k + 1), 0 ≤ leV g.2 from fun g hg => by
        rw [List.take_add_one, hx] at hg
        rcases List.mem_append.1 hg with hg | hg
        · exact hno g hg
        · obtain rfl : g = (q, J) := by simpa using hg
          exact Int.not_lt.1 hm)
      replace hno := hide hno
      have hm' : 0 ≤ leV J := Int.not_lt.1 hm
      generalize leV J = z at *
      clear hx hgm
      gi_wp2_with (gi_at_call 105; (with_reducible refine seq_gi hcall.out ?_); intro g)
      exact ⟨keeps_ext g.grown, below_fr (S := []) (Fr.of_ext g.grown) hzW (by simp), o0.ext g.grown, hXw.trans g.grown, hno2.out⟩
  case done =>
    rintro D W hD ⟨o0, hXw, hno⟩ hK
    rw [List.take_of_length_le (Nat.le_refl _)] at hno
    have hRf2 := hide (hRt.out hno)
    have q1 := o0.cell 0 rfl
    have hfr := o0.free 0
    clear hno
    go_wp2
    have hK2 := (KeepsOthers.setCell W ⟨w.heap.size, 0, none⟩ (.bool true)).same D _ hK rfl
    have o2 : Ob (W.setCell ⟨w.heap.size, 0, none⟩ (.bool true)) w.heap.size 4 [.bool true] := o0.set 0 _
    have q2 := (ob_put (o' := .deferred none) hK2 rfl o2).cell 0 rfl
    refine ret_mark hK2 (v := .bool true) ?_ ⟨by rw [hRf2.out], put_ext (hXw.setCell (p := ⟨w.heap.size, 0, none⟩) (by simp) _) (by omega) _⟩
    simp [results, Tryz.f54, go_sem, q2]
  case stop =>
    rintro D c k W hD hk ⟨⟨⟨rfl, hna⟩, o0⟩, hXw⟩ hK
    have hRf2 := hide hna
    go_wp2
    have q2 := (ob_put (o' := .deferred none) hK rfl o0).cell 0 rfl
    refine ret_mark hK (v := .bool false) ?_ ⟨by rw [hRf2.out], put_ext hXw (by omega) _⟩
    simp [results, Tryz.f54, go_sem, q2]

end Go.Proofs.YtljkneajdndgjaaGreat
