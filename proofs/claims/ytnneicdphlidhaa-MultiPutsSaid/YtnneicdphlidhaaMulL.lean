/-
  A helper of ours: no claim of its own. Layer 24 (multi): the thing of a copy, by the code.
-/
import Derived.Test.YtnneicdphlidhaaMulK
set_option linter.unusedVariables false
set_option linter.unusedSimpArgs false
namespace Go.Proofs.Ytnneicdphlidhaa
open Go.RowKit
attribute [local go_sem] GW.cell GW.frozen In.eq_true In.le_true In.ne In.ne' In.ne_add In.ne_add' In.lt_add Upto.le_true Upto.le_add Upto.lt_add Oper.semAt_some wide_depth wide_fn
theorem mret_plain {P : Program} {fn : Func} {R : Ending → World → Prop} {tmps : Array Value} {W : World} {v : Value} (hr : (results fn tmps).run P W = .ok v W) (hR : R (.returned v) W) :
    bodyPostM Fence.wide 0 P fn R .ret { tmps := tmps, defers := [] } W := ⟨v, hr, hR⟩
/-- The copy with a number, of things in order. -/
def nthT (i : Int) : List Tg → Int × Bool
  | [] => (0, false)
  | p :: r => if i < p.2 then (p.1, true) else nthT (i - p.2) r
def nthR (i : Int) (l : List Tg) (c : Int) : Int × Bool := if i < 0 ∨ c ≤ i then (0, false) else nthT i l
theorem mdrop_cons {l : List Tg} {k : Nat} {x : Tg} (h : l[k]? = some x) : l.drop k = x :: l.drop (k + 1) := by
  obtain ⟨hk, rfl⟩ := List.getElem?_eq_some_iff.1 h
  exact List.drop_eq_getElem_cons hk
set_option maxHeartbeats 8000000 in
set_option maxRecDepth 100000 in
theorem mnth_c (i : Int) (base b : Nat) (v : Value) (l : List Tg) (c : Int) (w : World) (hm : Mu w base b v l c) (hc : 0 ≤ c ∧ c ≤ 1048576) (hx : ∀ x ∈ l, 0 ≤ x.2 ∧ x.2 ≤ 1048576) :
    Calls Try.prog 14 #[.pointer (some ⟨b, 0, none⟩), .int .i64 i] w fun e w' => e = .returned (.tuple #[.int .i64 (nthR i l c).1, .bool (nthR i l c).2]) ∧ Ext w w' := by
  have hcnt := hide (fun w' (hX : Ext w w') => mcount_c l base b v c w' (hm.ext hX))
  have hmh := hide hm
  have m1 := hm.ob.cell 1 rfl
  have ml := hm.ob.lt
  haveI : In b w := ⟨ml⟩
  obtain ⟨A, cap, rfl⟩ := own_form hm.own
  refine calls_marks Try.func14 rfl ?_
  simp only [Try.ntmps14, List.size_toArray, List.length_cons, List.length_nil, Nat.reduceAdd, Nat.reduceSub, Array.replicate_succ, Array.replicate_zero, List.push_toArray, List.append_toArray, List.nil_append, List.cons_append]
  obtain ⟨Wb, hWb⟩ : ∃ Wb, Wb = ((w.alloc (.cells #[.int .i64 i] 3)).alloc (.cells #[.int .i64 0] 3)).alloc (.cells #[.bool false] 4) := ⟨_, rfl⟩
  have hX0 : Ext w Wb := by rw [hWb]; exact (((Ext.refl w).alloc _).alloc _).alloc _
  have o0 : Ob Wb w.heap.size 3 [.int .i64 i] := by rw [hWb]; exact ((Ob.new w _ [.int .i64 i]).alloc _).alloc _
  have o1 : Ob Wb (w.heap.size + 1) 3 [.int .i64 0] := by rw [hWb]; have := Ob.new (w.alloc (.cells #[.int .i64 i] 3)) 3 [.int .i64 0]; rw [World.size_alloc] at this; exact this.alloc _
  have o2 : Ob Wb (w.heap.size + 2) 4 [.bool false] := by rw [hWb]; have := Ob.new ((w.alloc (.cells #[.int .i64 i] 3)).alloc (.cells #[.int .i64 0] 3)) 4 [.bool false]; rwa [World.size_alloc, World.size_alloc] at this
  have hWs : Wb.heap.size = w.heap.size + 3 := by rw [hWb]; simp
  rw [show w.heap.size + 2 = w.heap.size + 1 + 1 from rfl] at o2
  have hcW := hide (fun w' (hX : Ext Wb w') => hcnt.out w' (hX0.trans hX))
  have q0 := o0.cell 0 rfl
  have q1 := o1.cell 0 rfl
  have q2 := o2.cell 0 rfl
  have f0 := o0.free 0
  have f1 := o1.free 0
  have f2 := o2.free 0
  have l0 := o0.lt
  have l1 := o1.lt
  have l2 := o2.lt
  haveI : In w.heap.size Wb := ⟨l0⟩
  haveI : In (w.heap.size + 1) Wb := ⟨l1⟩
  haveI : In (w.heap.size + 1 + 1) Wb := ⟨l2⟩
  have mb1 := mcell_later hX0 m1
  haveI : In b Wb := ⟨Nat.lt_of_lt_of_le ml hX0.size⟩
  have ho0 := hide o0
  have ho1 := hide o1
  have ho2 := hide o2
  have hX0h := hide hX0
  clear o0 o1 o2 m1 hcnt hWs hm
  unfold nthR
  by_cases h1 : i < 0
  · rw [if_pos (.inl h1)]
    go_wp2_with fail
    rw [← hWb]
    clear hWb
    refine wp_region_gw (by kernel_rfl) (by kernel_rfl) ?_
    repeat (go_big_quiet_step (fail))
    refine wpQuiet_nil ?_
    intro g
    go_wp2_with fail
    refine mret_plain (v := .tuple #[.int .i64 0, .bool false]) (by simp [results, Try.f14, go_sem, q0, q1, q2]) ⟨rfl, ((hX0h.out.trans g.grown).setCell (p := ⟨w.heap.size + 1, 0, none⟩) (by simp) _).setCell (p := ⟨w.heap.size + 1 + 1, 0, none⟩) (by show w.heap.size ≤ w.heap.size + 1 + 1; omega) _⟩
  · have hd1 : decide (i < 0) = false := decide_eq_false h1
    have h1' : 0 ≤ i := by omega
    by_cases h2 : c ≤ i
    · rw [if_pos (.inr h2)]
      have hd2 : decide (c ≤ i) = true := decide_eq_true h2
      go_wp2_with fail
      rw [← hWb]
      clear hWb
      refine wp_region_gw (by kernel_rfl) (by kernel_rfl) ?_
      repeat (go_big_quiet_step ((go_at_call 16; with_reducible exact quiet_gw (hcW.out _ (GW.grown _)))))
      refine wpQuiet_nil ?_
      intro g
      go_wp2_with fail
      refine mret_plain (v := .tuple #[.int .i64 0, .bool false]) (by simp [results, Try.f14, go_sem, q0, q1, q2]) ⟨rfl, ((hX0h.out.trans g.grown).setCell (p := ⟨w.heap.size + 1, 0, none⟩) (by simp) _).setCell (p := ⟨w.heap.size + 1 + 1, 0, none⟩) (by show w.heap.size ≤ w.heap.size + 1 + 1; omega) _⟩
    · rw [if_neg (by omega)]
      have hd2 : decide (c ≤ i) = false := decide_eq_false h2
      have h2' : i < c := by omega
      go_wp2_with fail
      rw [← hWb]
      clear hWb
      refine wp_region_gw (by kernel_rfl) (by kernel_rfl) ?_
      repeat (go_big_quiet_step ((go_at_call 16; with_reducible exact quiet_gw (hcW.out _ (GW.grown _)))))
      refine wpQuiet_nil ?_
      intro g
      have heach := hide (fun w' => each_c A l.length cap w')
      go_wp2_with (go_at_call 34; refine (heach.out _).mono ?_; rintro ee w1 ⟨bx, rfl, hbx, hle, hX1⟩)
      have hXw := hide (hX0h.out.trans (g.grown.trans hX1))
      have hz2 := hXw.out.size
      have hth : Thw w [] (.slice A l.length cap) l := Sl.own hmh.out.own (by simp)
      have p0 := ho0.out.ext (g.grown.trans hX1)
      have p1 := ho1.out.ext (g.grown.trans hX1)
      have p2 := ho2.out.ext (g.grown.trans hX1)
      have hzb : w.heap.size + 3 ≤ w1.heap.size := by have := p2.lt; omega
      have hi0 : 0 ≤ i ∧ i ≤ 1048576 := by omega
      have hxh := hide hx
      clear q0 q1 q2 f0 f1 f2 l0 l1 l2 mb1 hcW heach hx
      refine wp_range (xs := l) rfl (enters_of Try.func44 (by kernel_rfl) rfl) (each_seq l _ w w1 bx hth hXw.out hbx) (Ext.refl _) hXw.out.size (by rintro x vs W rfl; rfl) (fun x vs => Stab.pure _)
        (fun k W => (Ob W (w.heap.size + 1) 3 [.int .i64 0] ∧ Ob W (w.heap.size + 1 + 1) 4 [.bool false]) ∧ (Ext w W ∧ ∃ j, Ob W w.heap.size 3 [.int .i64 j] ∧ (0 ≤ j ∧ j ≤ 1048576 ∧ nthT i l = nthT j (l.drop k))))
        (fun cd k W => (cd = .ret ∧ Ob W (w.heap.size + 1) 3 [.int .i64 (nthT i l).1]) ∧ (Ob W (w.heap.size + 1 + 1) 4 [.bool (nthT i l).2] ∧ Ext w W))
        (fun k => ((Stab.ob _ _ _).and (Stab.ob _ _ _)).and ((Stab.of_ext hz2).and (Stab.ex fun j => (Stab.ob _ _ _).and (Stab.pure _))))
        (fun cd k => ((Stab.pure _).and (Stab.ob _ _ _)).and ((Stab.ob _ _ _).and (Stab.of_ext hz2)))
        ⟨⟨p1, p2⟩, hXw.out, i, p0, hi0.1, hi0.2, by rw [List.drop_zero]⟩
        (fun k x vs a' _ => a' = { tmps := #[.pointer (some ⟨b, 0, none⟩), .int .i64 i, undef, .pointer (some ⟨w.heap.size, 0, none⟩), .pointer (some ⟨w.heap.size + 1, 0, none⟩), .pointer (some ⟨w.heap.size + 1 + 1, 0, none⟩), .int .i64 0, .int .i64 x.1, .int .i64 x.2, .int .i64 i, .bool false, .bool false, .int .i64 i, .pointer (some ⟨b, 0, none⟩), .int .i64 c, .bool false, .bool false, undef, .pointer (some ⟨b, 0, none⟩), .pointer (some ⟨b, 0, none⟩), .pointer (some ⟨b, 1, none⟩), .slice A l.length cap, .func (.func 44) #[] #[.pointer (some ⟨bx, 0, none⟩)], .int .i64 x.1, .int .i64 x.2, undef, undef, undef, undef, undef, undef, undef, undef], defers := [] })
        (fun k x vs a' => Stab.pure _) ?assign ?body ?done ?stop
      case assign =>
        rintro L k x vs W K _ rfl hK
        gi_wp2
        exact hK _ _ (Ext.refl _) rfl
      case body =>
        rintro L k x vs a' W hx ⟨⟨r1, r2⟩, hXW, j, r0, hj0, hj1, hjn⟩ rfl rfl
        have s0 := r0.cell 0 rfl
        have s1 := r1.cell 0 rfl
        have s2 := r2.cell 0 rfl
        have e0 := r0.free 0
        have e1 := r1.free 0
        have e2 := r2.free 0
        have n0 := r0.lt
        have n1 := r1.lt
        have n2 := r2.lt
        haveI : In w.heap.size W := ⟨n0⟩
        haveI : In (w.heap.size + 1) W := ⟨n1⟩
        haveI : In (w.heap.size + 1 + 1) W := ⟨n2⟩
        rw [mdrop_cons hx] at hjn
        have hxb := hxh.out x (List.mem_of_getElem? hx)
        obtain ⟨xk, xc⟩ := x
        simp only [nthT] at hjn hxb
        by_cases hlt : j < xc
        · rw [if_pos hlt] at hjn
          have hd : decide (j < xc) = true := decide_eq_true hlt
          have hk : Hid (nthT i l = (xk, true)) := hjn
          have hmem : Hid (∀ y ∈ [w.heap.size + 1, w.heap.size + 1 + 1], ∃ T vs, Ob W y T vs) := by intro y hy; simp at hy; rcases hy with rfl | rfl; exact ⟨_, _, r1⟩; exact ⟨_, _, r2⟩
          clear hjn hx
          gi_wp2
          refine ⟨keeps_fr (S := [w.heap.size + 1, w.heap.size + 1 + 1]) (((Fr.refl _ W).setCell _ _ (.inl (by simp))).setCell _ _ (.inl (by simp))) hmem.out, ⟨rfl, ?_⟩, ?_, ((hXW).setCell (p := ⟨w.heap.size + 1, 0, none⟩) (by simp) _).setCell (p := ⟨w.heap.size + 1 + 1, 0, none⟩) (by show w.heap.size ≤ w.heap.size + 1 + 1; omega) _⟩
          · rw [hk.out]
            exact (r1.set 0 _).far _ _ (by simp)
          · rw [hk.out]
            exact (r2.far _ _ (by simp)).set 0 _
        · rw [if_neg hlt] at hjn
          have hd : decide (j < xc) = false := decide_eq_false hlt
          have hk := hide hjn
          have hmem : Hid (∀ y ∈ [w.heap.size], ∃ T vs, Ob W y T vs) := by intro y hy; simp at hy; subst hy; exact ⟨_, _, r0⟩
          have hzW := hXW.size
          clear hjn hx
          gi_wp2
          exact ⟨keeps_fr (S := [w.heap.size]) ((Fr.refl _ W).setCell _ _ (.inl (by simp))) hmem.out, below_fr (S := [w.heap.size]) ((Fr.refl _ W).setCell _ _ (.inl (by simp))) hzW (by simp), ⟨r1.far _ _ (by simp), r2.far _ _ (by simp; omega)⟩, hXW.setCell (p := ⟨w.heap.size, 0, none⟩) (by simp) _, j - xc, r0.set 0 _, by omega, by omega, hk.out⟩
      case done =>
        rintro D W hD ⟨⟨r1, r2⟩, hXW, j, r0, hj0, hj1, hjn⟩ hK
        rw [List.drop_length] at hjn
        have hR : Hid (nthT i l = (0, false)) := hjn
        have s1 := r1.cell 0 rfl
        have s2 := r2.cell 0 rfl
        have e1 := r1.free 0
        have e2 := r2.free 0
        clear hjn
        go_wp2
        have hX2 : Ext w ((W.setCell ⟨w.heap.size + 1, 0, none⟩ (.int .i64 0)).setCell ⟨w.heap.size + 1 + 1, 0, none⟩ (.bool false)) := ((hXW).setCell (p := ⟨w.heap.size + 1, 0, none⟩) (by simp) _).setCell (p := ⟨w.heap.size + 1 + 1, 0, none⟩) (by show w.heap.size ≤ w.heap.size + 1 + 1; omega) _
        have t1 := (r1.set 0 (.int .i64 0)).far ⟨w.heap.size + 1 + 1, 0, none⟩ (.bool false) (by simp)
        have t2 := (r2.far ⟨w.heap.size + 1, 0, none⟩ (.int .i64 0) (by simp)).set 0 (.bool false)
        have hK1 := (KeepsOthers.setCell W ⟨w.heap.size + 1, 0, none⟩ (.int .i64 0)).same D _ hK rfl
        have hK2 := (KeepsOthers.setCell (W.setCell ⟨w.heap.size + 1, 0, none⟩ (.int .i64 0)) ⟨w.heap.size + 1 + 1, 0, none⟩ (.bool false)).same D _ hK1 rfl
        have u1 := (ob_put (o' := .deferred none) hK2 rfl t1).cell 0 rfl
        have u2 := (ob_put (o' := .deferred none) hK2 rfl t2).cell 0 rfl
        refine ret_mark hK2 (v := .tuple #[.int .i64 0, .bool false]) ?_ ⟨by rw [hR.out], put_ext hX2 (by omega) _⟩
        simp [results, Try.f14, go_sem, u1, u2]
      case stop =>
        rintro D cd k W hD hk ⟨⟨rfl, r1⟩, r2, hXW⟩ hK
        go_wp2
        have s1 := (ob_put (o' := .deferred none) hK rfl r1).cell 0 rfl
        have s2 := (ob_put (o' := .deferred none) hK rfl r2).cell 0 rfl
        refine ret_mark hK (v := .tuple #[.int .i64 (nthT i l).1, .bool (nthT i l).2]) ?_ ⟨rfl, put_ext hXW (by omega) _⟩
        simp [results, Try.f14, go_sem, s1, s2]
end Go.Proofs.Ytnneicdphlidhaa
