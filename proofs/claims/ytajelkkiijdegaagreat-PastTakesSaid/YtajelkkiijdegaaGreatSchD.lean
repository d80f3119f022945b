/-
  A helper of ours: no claim of its own. Layer 7 (schema): two of one name; what is a schema, by the code.
-/
import Derived.Test.YtajelkkiijdegaaGreatIdx
set_option linter.unusedVariables false
set_option linter.unusedSimpArgs false
namespace Go.Proofs.YtajelkkiijdegaaGreat
open Go.RowKit
attribute [local go_sem] GW.cell GW.frozen In.eq_true In.le_true In.ne In.ne' In.ne_add In.ne_add' In.lt_add Upto.le_true Upto.le_add Upto.lt_add Oper.semAt_some wide_depth wide_fn
set_option maxHeartbeats 1000000 in
theorem index_c (l : List Cl) (n : ByteArray) (v : Value) (w : World) (hC : Cw w [] v l) : Calls Tryz.prog 141 #[v, .string n] w fun e w' => e = .returned (.int .i64 (ixC l n)) ∧ Ext w w' := by
  have hf := hide (schFirst_c l n v (w.alloc (.cells #[.string n] 9)) (Sl.ext hC ((Ext.refl w).alloc _)) w.heap.size (Ob.new w _ [.string n]))
  obtain ⟨A, cap, rfl, hlc, hlm, -⟩ := cw_form hC
  generalize ixC l n = R at *
  clear hC
  go_enter Tryz.func141, Tryz.ntmps141
  go_wp2_with (go_at_call 195; (with_reducible refine seq_gw hf.out ?_); intro g)
  go_returns
  exact ⟨rfl, ((Ext.refl w).alloc _).trans g.grown⟩
set_option maxHeartbeats 4000000 in
set_option maxRecDepth 100000 in
theorem hasTwice_c (l : List Cl) (v : Value) (w : World) (hC : Cw w [] v l) : Calls Tryz.prog 82 #[v] w fun e w' => e = .returned (.bool (!apartB l)) ∧ Ext w w' := by
  obtain ⟨A, cap, rfl, hlc, hlm, -⟩ := cw_form hC
  unfold maxLen at hlm
  obtain ⟨R, hR⟩ : ∃ R, R = !apartB l := ⟨_, rfl⟩
  rw [← hR]
  have hR1 : Hid (Apart l l.length → R = false) := fun h => by rw [hR, apartB_true.2 h]; rfl
  have hR2 : Hid (¬ Apart l l.length → R = true) := fun h => by rw [hR, Bool.not_eq_true', ← Bool.not_eq_true]; exact fun e => h (apartB_true.1 e)
  clear hR
  refine calls_marks Tryz.func82 rfl ?_
  simp only [Tryz.ntmps82, List.size_toArray, List.length_cons, List.length_nil, Nat.reduceAdd, Nat.reduceSub, Array.replicate_succ, Array.replicate_zero, List.push_toArray, List.append_toArray, List.nil_append, List.cons_append]
  obtain ⟨Wb, hWb⟩ : ∃ Wb, Wb = (w.alloc (.cells #[.slice A l.length cap] 23)).alloc (.cells #[.bool false] 4) := ⟨_, rfl⟩
  have hX0 : Ext w Wb := by rw [hWb]; exact ((Ext.refl w).alloc _).alloc _
  have ob0 : Ob Wb w.heap.size 23 [.slice A l.length cap] := by rw [hWb]; exact (Ob.new w _ [.slice A l.length cap]).alloc _
  have ob1 : Ob Wb (w.heap.size + 1) 4 [.bool false] := by rw [hWb]; have := Ob.new (w.alloc (.cells #[.slice A l.length cap] 23)) 4 [.bool false]; rwa [World.size_alloc] at this
  have hWs : Wb.heap.size = w.heap.size + 2 := by rw [hWb]; simp
  replace hX0 := hide hX0
  replace hC := hide hC
  go_wp2_with (go_at_call 140; refine (names_c _ _ _ _).mono ?_; rintro ee w1 ⟨b, rfl, hb, hle, hX1⟩)
  rw [← hWb] at hle hX1
  clear hWb
  have hX2 := hide (hX0.out.trans hX1)
  have hz2 := hX2.out.size
  have hz1 := hX1.size
  refine wp_range (xs := l.zipIdx) rfl (enters_of Tryz.func194 (by kernel_rfl) rfl) (names_seq l _ w w1 b hC.out hX2.out hb) (Ext.refl _) hX2.out.size (by rintro x vs W rfl; rfl) (fun x vs => Stab.pure _)
    (fun k W => (Ob W w.heap.size 23 [.slice A l.length cap] ∧ Ob W (w.heap.size + 1) 4 [.bool false]) ∧ (Ext w W ∧ Apart l k))
    (fun c k W => ((c = .ret ∧ ¬ Apart l l.length) ∧ Ob W (w.heap.size + 1) 4 [.bool true]) ∧ Ext w W)
    (fun k => ((Stab.ob _ _ _).and (Stab.ob _ _ _)).and ((Stab.of_ext hz2).and (Stab.pure _)))
    (fun c k => ((Stab.pure _).and (Stab.ob _ _ _)).and (Stab.of_ext hz2))
    ⟨⟨ob0.ext hX1, ob1.ext hX1⟩, hX2.out, apart_zero l⟩
    (fun k x vs a' _ => a' = { tmps := #[.slice A l.length cap, .pointer (some ⟨w.heap.size, 0, none⟩), .pointer (some ⟨w.heap.size + 1, 0, none⟩), .int .i64 x.2, .string x.1.1, .slice A l.length cap, .func (.func 194) #[] #[.pointer (some ⟨b, 0, none⟩)], .int .i64 x.2, .string x.1.1, undef, undef, undef, undef, undef], defers := [] })
    (fun k x vs a' => Stab.pure _) ?assign ?body ?done ?stop
  case assign =>
    rintro L k x vs W K _ rfl hK
    gi_wp2
    exact hK _ _ (Ext.refl _) rfl
  case body =>
    rintro L k x vs a' W hx ⟨⟨o0, o1⟩, hXw, hno⟩ rfl rfl
    rw [List.getElem?_zipIdx] at hx
    obtain ⟨c, hc, rfl⟩ : ∃ c, l[k]? = some c ∧ (c, k) = x := by
      cases h : l[k]? with
      | none => rw [h] at hx; cases hx
      | some c => rw [h] at hx; exact ⟨c, rfl, by simpa using hx⟩
    have q0 := o0.cell 0 rfl
    have q1 := o1.cell 0 rfl
    have hfr := o1.free 0
    have hcall := hide (index_c l c.1 _ W (Sl.ext hC.out hXw))
    have hzW := hXw.size
    have hmem : ∀ y ∈ [w.heap.size + 1], ∃ T vs, Ob W y T vs := by intro y hy; simp at hy; subst hy; exact ⟨_, _, o1⟩
    replace hmem := hide hmem
    have hkl := (List.getElem?_eq_some_iff.1 hc).1
    obtain ⟨j, hj, hjk, hiff⟩ := ixC_le hc
    rw [hj] at hcall
    have hltW := o1.lt
    haveI : In (w.heap.size + 1) W := ⟨hltW⟩
    haveI : In w.heap.size W := ⟨o0.lt⟩
    by_cases he : j < k
    · have hna : Hid (¬ Apart l l.length) := fun hA => by have := hiff.1 (hA k hkl c hc); omega
      replace hno := hide hno
      have heI : (j : Int) < k := by omega
      obtain ⟨cn, ck⟩ := c
      clear hc hx hiff hj
      gi_wp2_with (gi_at_call 141; (with_reducible refine seq_gi hcall.out ?_); intro g)
      exact ⟨keeps_fr (S := [w.heap.size + 1]) ((Fr.of_ext g.grown).setCell _ _ (.inl (by simp))) hmem.out, ⟨⟨rfl, hna.out⟩, (o1.ext g.grown).set 0 _⟩, (hXw.trans g.grown).setCell (p := ⟨w.heap.size + 1, 0, none⟩) (by simp) _⟩
    · have hna : Hid (Apart l (k + 1)) := apart_step hno hc (hiff.2 (by omega))
      replace hno := hide hno
      have heI : (k : Int) ≤ j := by omega
      obtain ⟨cn, ck⟩ := c
      clear hc hx hiff hj
      gi_wp2_with (gi_at_call 141; (with_reducible refine seq_gi hcall.out ?_); intro g)
      exact ⟨keeps_ext g.grown, below_fr (S := []) (Fr.of_ext g.grown) hzW (by simp), ⟨o0.ext g.grown, o1.ext g.grown⟩, hXw.trans g.grown, hna.out⟩
  case done =>
    rintro D W hD ⟨⟨o0, o1⟩, hXw, hno⟩ hK
    rw [List.length_zipIdx] at hno
    have hRf := hide (hR1.out hno)
    have q1 := o1.cell 0 rfl
    have hfr := o1.free 0
    clear hno
    go_wp2
    have hK2 := (KeepsOthers.setCell W ⟨w.heap.size + 1, 0, none⟩ (.bool false)).same D _ hK rfl
    have o2 : Ob (W.setCell ⟨w.heap.size + 1, 0, none⟩ (.bool false)) (w.heap.size + 1) 4 [.bool false] := o1.set 0 _
    have q2 := (ob_put (o' := .deferred none) hK2 rfl o2).cell 0 rfl
    refine ret_mark hK2 (v := .bool false) ?_ ⟨by rw [hRf.out], put_ext (hXw.setCell (p := ⟨w.heap.size + 1, 0, none⟩) (by simp) _) (by omega) _⟩
    simp [results, Tryz.f82, go_sem, q2]
  case stop =>
    rintro D c k W hD hk ⟨⟨⟨rfl, hna⟩, o1⟩, hXw⟩ hK
    have hRf := hide (hR2.out hna)
    go_wp2
    have q2 := (ob_put (o' := .deferred none) hK rfl o1).cell 0 rfl
    refine ret_mark hK (v := .bool true) ?_ ⟨by rw [hRf.out], put_ext hXw (by omega) _⟩
    simp [results, Tryz.f82, go_sem, q2]
set_option maxHeartbeats 2000000 in
theorem isNoneC_c (c : Cl) (w : World) : Calls Tryz.prog 81 #[.agg #[.string c.1, .int .i64 c.2]] w fun e w' => e = .returned (.bool (!okC c)) ∧ Ext w w' := by
  obtain ⟨n, k⟩ := c
  have hn := hide (fun w => name_c n w)
  obtain ⟨R, hR⟩ : ∃ R, R = !okC (n, k) := ⟨_, rfl⟩
  rw [← hR]
  unfold okC at hR
  simp only at hR
  generalize nameB n = m at *
  by_cases h1 : k = 1
  · subst h1
    rw [decide_eq_true (.inl rfl), Bool.true_and] at hR
    replace hR := hide hR
    go_enter Tryz.func81, Tryz.ntmps81
    go_wp2_with (go_at_call 139; (with_reducible refine seq_gw (hn.out _) ?_); intro g)
    go_returns
    exact ⟨by rw [hR.out]; first | rfl | simp, ((Ext.refl w).alloc _).trans g.grown⟩
  by_cases h2 : k = 2
  · subst h2
    rw [decide_eq_true (.inr rfl), Bool.true_and] at hR
    replace hR := hide hR
    clear h1
    go_enter Tryz.func81, Tryz.ntmps81
    go_wp2_with (go_at_call 139; (with_reducible refine seq_gw (hn.out _) ?_); intro g)
    go_returns
    exact ⟨by rw [hR.out]; first | rfl | simp, ((Ext.refl w).alloc _).trans g.grown⟩
  · rw [decide_eq_false (by omega), Bool.false_and] at hR
    replace hR := hide hR
    have b1 : (k == 1) = false := by rw [beq_eq_false_iff_ne]; exact h1
    have b2 : (k == 2) = false := by rw [beq_eq_false_iff_ne]; exact h2
    clear hn
    go_enter Tryz.func81, Tryz.ntmps81
    go_wp2_with fail
    go_returns
    exact ⟨by rw [hR.out]; first | rfl | simp, (Ext.refl w).alloc _⟩
set_option maxHeartbeats 2000000 in
theorem indexFuncC_c (l : List Cl) (v : Value) (w : World) (h : Cw w [] v l) : Calls Tryz.prog 138 #[v, .func (.func 81) #[] #[]] w fun e w' => e = .returned (.int .i64 (idxP okC 0 l)) ∧ Ext w w' := by
  obtain ⟨A, cap, rfl, hl, hm, hat⟩ := cw_form h
  unfold maxLen at hm
  replace hat := hide hat
  clear h
  obtain ⟨R, hR⟩ : ∃ R, R = idxP okC 0 l := ⟨_, rfl⟩
  rw [← hR]
  replace hR := hide hR
  go_enter Tryz.func138, Tryz.ntmps138
  go_wp2_with fail
  go_loopg [8] l.length (fun gh i wr => ∃ (k : Nat), i = .int .i64 k ∧ k + gh = l.length ∧ Hid (R = idxP okC k (l.drop k)) ∧ Ext w wr)
  case atStart => exact ⟨0, rfl, by omega, by simpa using hR, Ext.refl w⟩
  case round =>
    obtain ⟨k, rfl, hk, hRk, hX⟩ := hrel
    clear hR
    by_cases hlt : k < l.length
    · obtain ⟨x, hx⟩ : ∃ x, l[k]? = some x := ⟨_, List.getElem?_eq_getElem hlt⟩
      obtain ⟨b, o, rfl, -, hb, c0, c1⟩ := hat.out k x hx
      have k0 := cell_later hX c0
      have k1 := cell_later hX c1
      have hbr : b < wr.heap.size := block_lt_of_cell k0
      have hin := hide (fun w => isNoneC_c x w)
      have hR2 := hRk.out
      rw [drop_cons hx] at hR2
      clear c0 c1 hat hx
      cases hmx : okC x
      · rw [hmx] at hin
        rw [idxP_no hmx] at hR2
        replace hR2 := hide hR2
        replace hmx := hide hmx
        obtain ⟨xn, xk⟩ := x
        go_wp2_with (go_at_call 81; (with_reducible refine seq_gw (hin.out _) ?_); intro g)
        go_returns
        exact ⟨by rw [hR2.out]; rfl, hX.trans g.grown⟩
      · rw [hmx] at hin
        rw [idxP_yes hmx] at hR2
        replace hR2 := hide hR2
        replace hmx := hide hmx
        obtain ⟨xn, xk⟩ := x
        go_wp2_with (go_at_call 81; (with_reducible refine seq_gw (hin.out _) ?_); intro g)
        go_roundg (l.length - (k + 1))
        case measure => omega
        case rel => exact ⟨k + 1, by go_num, by omega, hR2, hX.trans g.grown⟩
    · have hk' : k = l.length := by omega
      have hge : (l.length : Int) ≤ k := by omega
      have hR2 := hRk.out
      rw [hk', List.drop_length] at hR2
      replace hR2 := hide hR2
      replace hk' := hide hk'
      go_wp2_with fail
      go_returns
      exact ⟨by rw [hR2.out]; rfl, hX⟩
set_option maxHeartbeats 1000000 in
theorem containsFuncC_c (l : List Cl) (v : Value) (w : World) (h : Cw w [] v l) : Calls Tryz.prog 80 #[v, .func (.func 81) #[] #[]] w fun e w' => e = .returned (.bool (!l.all okC)) ∧ Ext w w' := by
  have hc := hide (indexFuncC_c l v w h)
  have e := hide (idxP_ge okC 0 l)
  generalize idxP okC 0 l = z at *
  generalize l.all okC = m at *
  clear h
  go_enter Tryz.func80, Tryz.ntmps80
  go_wp2_with (go_at_call 138; (with_reducible refine seq_gw hc.out ?_); intro g)
  go_returns
  exact ⟨by rw [← e.out]; rfl, g.grown⟩
set_option maxHeartbeats 2000000 in
theorem mayS_c (l : List Cl) (v : Value) (w : World) (h : Cw w [] v l) : Calls Tryz.prog 36 #[v] w fun e w' => e = .returned (.bool (mayS l)) ∧ Ext w w' := by
  have hc := hide (containsFuncC_c l v w h)
  have ht := hide (fun w' (hX : Ext w w') => hasTwice_c l v w' (Sl.ext h hX))
  obtain ⟨A, cap, rfl, hl, hm, -⟩ := cw_form h
  clear h
  by_cases h0 : l.length = 0
  · have e : mayS l = false := by unfold mayS; rw [decide_eq_false (by omega), Bool.false_and]
    rw [e]
    have h0I : (l.length : Int) = 0 := by omega
    clear e hc ht
    replace h0 := hide h0
    go_enter Tryz.func36, Tryz.ntmps36
    go_wp2_with fail
    go_returns
    exact ⟨rfl, Ext.refl w⟩
  have h0I : ((l.length : Int) == 0) = false := by rw [beq_eq_false_iff_ne]; omega
  by_cases h8 : l.length ≤ 8
  · have e : mayS l = (l.all okC && apartB l) := by unfold mayS; rw [decide_eq_true ⟨by omega, h8⟩, Bool.true_and]
    rw [e]
    have h8' : (l.length : Int) ≤ 8 := by omega
    clear e h0
    generalize apartB l = ap at *
    cases ha : l.all okC
    · rw [ha] at hc
      clear ha ht
      go_enter Tryz.func36, Tryz.ntmps36
      go_wp2_with (go_at_call 80; (with_reducible refine seq_gw hc.out ?_); intro g)
      go_returns
      exact ⟨by first | rfl | simp, g.grown⟩
    · rw [ha] at hc
      clear ha
      go_enter Tryz.func36, Tryz.ntmps36
      go_wp2_with (first | (go_at_call 80; (with_reducible refine seq_gw hc.out ?_); intro g) | (go_at_call 82; (with_reducible refine seq_gw' (ht.out _ g.grown) ?_); intro g2))
      go_returns
      exact ⟨by first | rfl | simp, g2.grown⟩
  · have e : mayS l = false := by unfold mayS; rw [decide_eq_false (by omega), Bool.false_and]
    rw [e]
    have h8' : (8 : Int) < l.length := by omega
    clear e hc ht
    go_enter Tryz.func36, Tryz.ntmps36
    go_wp2_with fail
    go_returns
    exact ⟨rfl, Ext.refl w⟩
end Go.Proofs.YtajelkkiijdegaaGreat
