/-
  A helper of ours: no claim of its own. Layer 7 (schema): the first column of a name, by the code and by the document.
-/
import Derived.Test.YtopgapbipmblbaaSchB
set_option linter.unusedVariables false
set_option linter.unusedSimpArgs false
namespace Go.Proofs.Ytopgapbipmblbaa
open Go.RowKit
attribute [local go_sem] GW.cell GW.frozen In.eq_true In.le_true In.ne In.ne' In.ne_add In.ne_add' In.lt_add Upto.le_true Upto.le_add Upto.lt_add Oper.semAt_some wide_depth wide_fn
set_option maxHeartbeats 4000000 in
set_option maxRecDepth 100000 in
theorem first_c (l : List Cl) (n : ByteArray) (v : Value) (w : World) (hC : Cw w [] v l) (bn : Nat) (hn : Ob w bn 9 [.string n]) : Calls Try.prog 110 #[v, .func (.func 111) #[] #[.pointer (some ⟨bn, 0, none⟩)]] w fun e w' => e = .returned (.int .i64 (ixC l n)) ∧ Ext w w' := by
  obtain ⟨A, cap, rfl, hlc, hlm, -⟩ := cw_form hC
  unfold maxLen at hlm
  refine calls_marks Try.func110 rfl ?_
  simp only [Try.ntmps110, List.size_toArray, List.length_cons, List.length_nil, Nat.reduceAdd, Nat.reduceSub, Array.replicate_succ, Array.replicate_zero, List.push_toArray, List.append_toArray, List.nil_append, List.cons_append]
  obtain ⟨Wb, hWb⟩ : ∃ Wb, Wb = (w.alloc (.cells #[.func (.func 111) #[] #[.pointer (some ⟨bn, 0, none⟩)]] 124)).alloc (.cells #[.int .i64 0] 3) := ⟨_, rfl⟩
  have hX0 : Ext w Wb := by rw [hWb]; exact ((Ext.refl w).alloc _).alloc _
  have ob0 : Ob Wb w.heap.size 124 [.func (.func 111) #[] #[.pointer (some ⟨bn, 0, none⟩)]] := by rw [hWb]; exact (Ob.new w _ [.func (.func 111) #[] #[.pointer (some ⟨bn, 0, none⟩)]]).alloc _
  have ob1 : Ob Wb (w.heap.size + 1) 3 [.int .i64 0] := by rw [hWb]; have := Ob.new (w.alloc (.cells #[.func (.func 111) #[] #[.pointer (some ⟨bn, 0, none⟩)]] 124)) 3 [.int .i64 0]; rwa [World.size_alloc] at this
  have hWs : Wb.heap.size = w.heap.size + 2 := by rw [hWb]; simp
  replace hX0 := hide hX0
  replace hC := hide hC
  go_wp2_with (go_at_call 94; refine (names_c _ _ _ _).mono ?_; rintro ee w1 ⟨b, rfl, hb, hle, hX1⟩)
  rw [← hWb] at hle hX1
  clear hWb
  have hX2 := hide (hX0.out.trans hX1)
  have hz2 := hX2.out.size
  have hz1 := hX1.size
  refine wp_range (xs := l.zipIdx) rfl (enters_of Try.func109 (by kernel_rfl) rfl) (names_seq l _ w w1 b hC.out hX2.out hb) (Ext.refl _) hX2.out.size (by rintro x vs W rfl; rfl) (fun x vs => Stab.pure _)
    (fun k W => (Ob W w.heap.size 124 [.func (.func 111) #[] #[.pointer (some ⟨bn, 0, none⟩)]] ∧ Ob W (w.heap.size + 1) 3 [.int .i64 0]) ∧ (Ext w W ∧ ∀ c ∈ l.take k, c.1 ≠ n))
    (fun c k W => (c = .ret ∧ Ob W (w.heap.size + 1) 3 [.int .i64 (ixC l n)]) ∧ Ext w W)
    (fun k => ((Stab.ob _ _ _).and (Stab.ob _ _ _)).and ((Stab.of_ext hz2).and (Stab.pure _)))
    (fun c k => ((Stab.pure _).and (Stab.ob _ _ _)).and (Stab.of_ext hz2))
    ⟨⟨ob0.ext hX1, ob1.ext hX1⟩, hX2.out, by simp⟩
    (fun k x vs a' _ => a' = { tmps := #[.slice A l.length cap, .func (.func 111) #[] #[.pointer (some ⟨bn, 0, none⟩)], undef, .pointer (some ⟨w.heap.size, 0, none⟩), .pointer (some ⟨w.heap.size + 1, 0, none⟩), .int .i64 x.2, .string x.1.1, .slice A l.length cap, .func (.func 109) #[] #[.pointer (some ⟨b, 0, none⟩)], .int .i64 x.2, .string x.1.1, undef, undef, undef, undef], defers := [] })
    (fun k x vs a' => Stab.pure _) ?assign ?body ?done ?stop
  case assign =>
    rintro L k x vs W K _ rfl hK
    gi_wp2
    exact hK _ _ (Ext.refl _) rfl
  case body =>
    rintro L k x vs a' W hx ⟨⟨o0, o1⟩, hXw, hno⟩ rfl rfl
    rw [List.getElem?_zipIdx] at hx
    obtain ⟨c, hc, rfl⟩ : ∃ c, l[k]? = some c ∧ (c, k) = x := by
      cases h : l[k]? with
      | none => rw [h] at hx; cases hx
      | some c => rw [h] at hx; exact ⟨c, rfl, by simpa using hx⟩
    have q0 := o0.cell 0 rfl
    have q1 := o1.cell 0 rfl
    have hfr := o1.free 0
    have hcall := hide (index1_c c.1 n bn W (hn.ext hXw))
    have hzW := hXw.size
    have hat : Hid (c.1 = n → ixC l n = k) := fun e => ixC_at hc e hno
    have hgo : Hid (¬ c.1 = n → ∀ d ∈ l.take (k + 1), d.1 ≠ n) := fun e d hd => by
      rw [List.take_add_one, hc] at hd
      rcases List.mem_append.1 hd with hd | hd
      · exact hno d hd
      · obtain rfl : d = c := by simpa using hd
        exact e
    have hmem : ∀ y ∈ [w.heap.size + 1], ∃ T vs, Ob W y T vs := by intro y hy; simp at hy; subst hy; exact ⟨_, _, o1⟩
    replace hmem := hide hmem
    replace hno := hide hno
    have hltW := o1.lt
    haveI : In (w.heap.size + 1) W := ⟨hltW⟩
    obtain ⟨cn, ck⟩ := c
    by_cases he : cn = n
    · rw [decide_eq_true he] at hcall
      have hk := hide (hat.out he)
      clear hat hgo he hc hx
      gi_wp2_with (gi_at_call 111; (with_reducible refine seq_gi hcall.out ?_); intro g)
      refine ⟨keeps_fr (S := [w.heap.size + 1]) ((Fr.of_ext g.grown).setCell _ _ (.inl (by simp))) hmem.out, ⟨rfl, ?_⟩, (hXw.trans g.grown).setCell (p := ⟨w.heap.size + 1, 0, none⟩) (by simp) _⟩
      rw [hk.out]
      exact (o1.ext g.grown).set 0 _
    · rw [decide_eq_false he] at hcall
      have hk := hide (hgo.out he)
      clear hat hgo he hc hx
      gi_wp2_with (gi_at_call 111; (with_reducible refine seq_gi hcall.out ?_); intro g)
      exact ⟨keeps_ext g.grown, below_fr (S := []) (Fr.of_ext g.grown) hzW (by simp), ⟨o0.ext g.grown, o1.ext g.grown⟩, hXw.trans g.grown, hk.out⟩
  case done =>
    rintro D W hD ⟨⟨o0, o1⟩, hXw, hno⟩ hK
    rw [List.length_zipIdx, List.take_of_length_le (Nat.le_refl _)] at hno
    have hR := hide (ixC_none hno)
    have q1 := o1.cell 0 rfl
    have hfr := o1.free 0
    clear hno
    go_wp2
    have hK2 := (KeepsOthers.setCell W ⟨w.heap.size + 1, 0, none⟩ (.int .i64 (-1))).same D _ hK rfl
    have o2 : Ob (W.setCell ⟨w.heap.size + 1, 0, none⟩ (.int .i64 (-1))) (w.heap.size + 1) 3 [.int .i64 (-1)] := o1.set 0 _
    have q2 := (ob_put (o' := .deferred none) hK2 rfl o2).cell 0 rfl
    refine ret_mark hK2 (v := .int .i64 (-1)) ?_ ⟨by rw [hR.out], put_ext (hXw.setCell (p := ⟨w.heap.size + 1, 0, none⟩) (by simp) _) (by omega) _⟩
    simp [results, Try.f110, go_sem, q2]
  case stop =>
    rintro D c k W hD hk ⟨⟨rfl, o1⟩, hXw⟩ hK
    go_wp2
    have q2 := (ob_put (o' := .deferred none) hK rfl o1).cell 0 rfl
    refine ret_mark hK (v := .int .i64 (ixC l n)) ?_ ⟨rfl, put_ext hXw (by omega) _⟩
    simp [results, Try.f110, go_sem, q2]
end Go.Proofs.Ytopgapbipmblbaa
