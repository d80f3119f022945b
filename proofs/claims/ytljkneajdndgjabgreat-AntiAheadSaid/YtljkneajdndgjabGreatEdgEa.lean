/-
  A helper of ours: no claim of its own. Layer 10 (edge): what is made of each row's jumps (edge.each).
-/
import Derived.Test.YtljkneajdndgjabGreatEdgEg
import Derived.Test.YtljkneajdndgjabGreatStepA
import Derived.Test.YtljkneajdndgjabGreatStepR
set_option linter.unusedVariables false
set_option linter.unusedSimpArgs false
namespace Go.Proofs.YtljkneajdndgjabGreat
open Go.RowKit
attribute [local go_sem] GW.cell GW.frozen In.eq_true In.le_true In.ne In.ne' In.ne_add In.ne_add' In.lt_add Upto.le_true Upto.le_add Upto.lt_add Oper.semAt_some wide_depth wide_fn
def ahOp (t : Int) (f : List Jp) : Int × List Jp := (ahE f t, ahR f t)
theorem ahOp_len (t : Int) (f : List Jp) : (ahOp t f).2.length ≤ 1024 := by
  unfold ahOp ahR
  simp only
  split
  · rename_i h
    exact mayJ_len (ahE_zero.1 h).2
  · simp
set_option maxHeartbeats 1000000 in
theorem ah1_c (l : List Jp) (t : Int) (v : Value) (bt : Nat) (w : World) (h : Jw w [] v l) (hb : Ob w bt 3 [.int .i64 t]) : Calls Tryz.prog 51 #[v, .pointer (some ⟨bt, 0, none⟩)] w fun e w' => ∃ v', e = .returned (.tuple #[v', .int .i64 (ahOp t l).1]) ∧ OwnJ w' w.heap.size v' (ahOp t l).2 ∧ Ext w w' := by
  have hc := hide (stepAhead_c l t v w h)
  show Calls _ _ _ _ fun e w' => ∃ v', e = .returned (.tuple #[v', .int .i64 (ahE l t)]) ∧ OwnJ w' w.heap.size v' (ahR l t) ∧ Ext w w'
  generalize ahE l t = E at *
  generalize ahR l t = R at *
  obtain ⟨A, cap, rfl, -, -, -⟩ := jw_form h
  have q0 := hb.cell 0 rfl
  clear h hb
  go_enter Tryz.func51, Tryz.ntmps51
  go_wp2_with (go_at_call 52; refine hc.out.mono ?_; rintro ee w1 ⟨v1, rfl, ho1, hx1⟩)
  go_returns
  exact ⟨_, rfl, ho1, hx1⟩

set_option maxHeartbeats 8000000 in
set_option maxRecDepth 100000 in
theorem eachAhead_c (L : List Ve) (v : Value) (w : World) (hC : Ew w [] v L) (hL : L.length ≤ 8192) (t : Int) (bt : Nat) (hbt : Ob w bt 3 [.int .i64 t]) (hG : ∀ g ∈ grp (eds L), g.1.length ≤ 8) : Calls Tryz.prog 50 #[v, .func (.func 51) #[] #[.pointer (some ⟨bt, 0, none⟩)]] w fun e w' => ∃ v' M, e = .returned (.tuple #[v', .int .i64 (eachE (ahOp t) (grp (eds L)))]) ∧ eds M = eachR (ahOp t) (grp (eds L)) ∧ OwnEr w' w.heap.size v' M ∧ Ext w w' := by
  obtain ⟨A, cap, rfl, hlc, hlm, -⟩ := ew_form hC
  unfold maxLen at hlm
  refine calls_marks Tryz.func50 rfl ?_
  simp only [Tryz.ntmps50, List.size_toArray, List.length_cons, List.length_nil, Nat.reduceAdd, Nat.reduceSub, Array.replicate_succ, Array.replicate_zero, List.push_toArray, List.append_toArray, List.nil_append, List.cons_append]
  obtain ⟨Wb, hWb⟩ : ∃ Wb, Wb = (((w.alloc (.cells #[.func (.func 51) #[] #[.pointer (some ⟨bt, 0, none⟩)]] 86)).alloc (.cells #[.slice none 0 0] 22)).alloc (.cells #[.int .i64 0] 27)).alloc (.cells #[.slice none 0 0] 22) := ⟨_, rfl⟩
  have hX0 : Ext w Wb := by rw [hWb]; exact ((((Ext.refl w).alloc _).alloc _).alloc _).alloc _
  have a0 : Ob Wb w.heap.size 86 [.func (.func 51) #[] #[.pointer (some ⟨bt, 0, none⟩)]] := by rw [hWb]; exact ((((Ob.new w 86 [.func (.func 51) #[] #[.pointer (some ⟨bt, 0, none⟩)]]).alloc _).alloc _).alloc _)
  have a1 : Ob Wb (w.heap.size + 1) 22 [.slice none 0 0] := by rw [hWb]; have := Ob.new (w.alloc (.cells #[.func (.func 51) #[] #[.pointer (some ⟨bt, 0, none⟩)]] 86)) 22 [.slice none 0 0]; rw [World.size_alloc] at this; exact (this.alloc _).alloc _
  have a2 : Ob Wb (w.heap.size + 1 + 1) 27 [.int .i64 0] := by rw [hWb]; have := Ob.new ((w.alloc (.cells #[.func (.func 51) #[] #[.pointer (some ⟨bt, 0, none⟩)]] 86)).alloc (.cells #[.slice none 0 0] 22)) 27 [.int .i64 0]; rw [World.size_alloc, World.size_alloc] at this; exact this.alloc _
  have a3 : Ob Wb (w.heap.size + 1 + 1 + 1) 22 [.slice none 0 0] := by rw [hWb]; have := Ob.new (((w.alloc (.cells #[.func (.func 51) #[] #[.pointer (some ⟨bt, 0, none⟩)]] 86)).alloc (.cells #[.slice none 0 0] 22)).alloc (.cells #[.int .i64 0] 27)) 22 [.slice none 0 0]; rwa [World.size_alloc, World.size_alloc, World.size_alloc] at this
  have hGl := grp_len (eds L)
  rw [List.length_map] at hGl
  obtain ⟨G, hGe⟩ : ∃ G, G = grp (eds L) := ⟨_, rfl⟩
  replace hG := hide hG
  replace hC := hide hC
  go_wp2_with (go_at_call 60; refine (functions_c _ _ _ _).mono ?_; rintro ee w1 ⟨b, rfl, hb, hle, hX1⟩)
  rw [← hWb] at hle hX1
  clear hWb
  have hX2 := hide (hX0.trans hX1)
  have p0 := a0.ext hX1
  have p1 := a1.ext hX1
  have p2 := a2.ext hX1
  have p3 := a3.ext hX1
  have hz2 := hX2.out.size
  generalize hb3 : w.heap.size + 1 + 1 + 1 = b3 at *
  generalize hb2 : w.heap.size + 1 + 1 = b2 at *
  generalize hb1 : w.heap.size + 1 = b1 at *
  clear a0 a1 a2 a3 hle hX0 hX1
  refine wp_range (xs := grp (eds L)) rfl (enters_of Tryz.func108 (by kernel_rfl) rfl) (functions_seq L _ w w1 b hC.out (by omega) hX2.out hb) (Ext.refl _) hX2.out.size (fun x vs W h => h.size) (fun x vs => Hg.stab x vs)
    (fun k W => (Ob W w.heap.size 86 [.func (.func 51) #[] #[.pointer (some ⟨bt, 0, none⟩)]] ∧ (Ob W b1 22 [.slice none 0 0] ∧ Ob W b2 27 [.int .i64 0])) ∧ ((∃ mv, ∃ M : List Ve, (Ob W b3 22 [mv] ∧ (OwnE W (b3 + 1) mv M ∧ ∀ p, ∀ (_ : p ∈ M), Rw W (ob mv ++ List.range (b3 + 1)) p.1 p.2.1)) ∧ (eds M = evL (ahOp t) ((grp (eds L)).take k) ∧ M.length ≤ 1024 * k)) ∧ (Ext w W ∧ ∀ g ∈ (grp (eds L)).take k, ((ahOp t) g.2).1 = 0)))
    (fun c k W => ((c = .ret ∧ k ≤ (grp (eds L)).length) ∧ (Ob W b1 22 [.slice none 0 0] ∧ ∃ E, Ob W b2 27 [.int .i64 E] ∧ (eachE (ahOp t) (grp (eds L)) = E ∧ E ≠ 0))) ∧ Ext w W)
    (fun k => ((Stab.ob _ _ _).and ((Stab.ob _ _ _).and (Stab.ob _ _ _))).and ((Stab.ex fun mv => Stab.ex fun M => ((Stab.ob _ _ _).and ((Stab.own _ _ _ _ _ _).and (Stab.all fun p => Stab.all fun _ => Stab.sl _ _ _ _ _))).and (Stab.pure _)).and ((Stab.of_ext hz2).and (Stab.pure _))))
    (fun c k => ((Stab.pure _).and ((Stab.ob _ _ _).and (Stab.ex fun E => (Stab.ob _ _ _).and (Stab.pure _)))).and (Stab.of_ext hz2))
    ⟨⟨p0, p1, p2⟩, ⟨_, [], ⟨p3, World.ownsRow_nil _ _ _ _, by simp⟩, by simp [evL, eds], by simp⟩, hX2.out, by simp⟩
    (fun k x vs a' _ => ∃ r f, vs = #[r, f] ∧ a' = { tmps := #[.slice A L.length cap, .func (.func 51) #[] #[.pointer (some ⟨bt, 0, none⟩)], undef, .pointer (some ⟨w.heap.size, 0, none⟩), .pointer (some ⟨b1, 0, none⟩), .pointer (some ⟨b2, 0, none⟩), .pointer (some ⟨b3, 0, none⟩), r, f, undef, undef, .slice A L.length cap, .func (.func 108) #[] #[.pointer (some ⟨b, 0, none⟩)], r, f, undef, undef, undef, undef, undef, undef, undef, undef, undef, undef, undef, undef, undef, undef, undef, undef, undef, undef], defers := [] })
    (fun k x vs a' => Stab.pure _) ?assign ?body ?done ?stop
  case assign =>
    rintro LL k x vs W K _ ⟨r, f, rfl, -, -⟩ hK
    gi_wp2
    exact hK _ _ (Ext.refl _) ⟨r, f, rfl, rfl⟩
  case body =>
    rintro LL k x vs a' W hx ⟨⟨o0, o1, o2⟩, ⟨mv, M, ⟨o3, hMo, hMr⟩, hMe, hMl⟩, hXw, hok⟩ ⟨r', f', e', hr, hf⟩ ⟨r, f, rfl, rfl⟩
    obtain ⟨rfl, rfl⟩ : r = r' ∧ f = f' := by simpa using e'
    obtain ⟨q, J⟩ := x
    have hgm : (q, J) ∈ grp (eds L) := List.mem_of_getElem? hx
    have hkl := (List.getElem?_eq_some_iff.1 hx).1
    have h8 := hG.out (q, J) hgm
    simp only at h8
    have q0 := o0.cell 0 rfl
    have hb3W := o3.lt
    have hzW := hXw.size
    have hltW := o0.lt
    haveI : In w.heap.size W := ⟨hltW⟩
    have hRlen : ((ahOp t) J).2.length ≤ 1024 := ahOp_len t J
    have hin := hide (fun w' (hX' : Ext W w') => ah1_c J t f bt w' (Sl.ext hf hX') ((hbt.ext hXw).ext hX'))
    obtain ⟨E, hE⟩ : ∃ E, E = ((ahOp t) J).1 := ⟨_, rfl⟩
    obtain ⟨R, hR⟩ : ∃ R, R = ((ahOp t) J).2 := ⟨_, rfl⟩
    rw [← hE, ← hR] at hin
    rw [← hR] at hRlen
    obtain ⟨JA, jcap, rfl, -, -, -⟩ := jw_form hf
    obtain ⟨RA, rcap, rfl⟩ := rw_val hr
    have hX00 := hide (Ext.refl W)
    by_cases h0 : E = 0
    · have hnx := hide (show evL (ahOp t) ((grp (eds L)).take (k + 1)) = evL (ahOp t) ((grp (eds L)).take k) ++ R.map fun j => (q, j) by rw [List.take_add_one, hx, Option.toList_some, evL_snoc, ← hR])
      have hok2 := hide (show ∀ g ∈ (grp (eds L)).take (k + 1), ((ahOp t) g.2).1 = 0 from fun g hg => by
        rw [List.take_add_one, hx] at hg
        rcases List.mem_append.1 hg with hg | hg
        · exact hok g hg
        · obtain rfl : g = (q, J) := by simpa using hg
          rw [← hE]; exact h0)
      subst h0
      replace hE := hide hE
      replace hR := hide hR
      replace hMe := hide hMe
      clear hx hok hgm
      obtain ⟨MA, mcap, rfl⟩ := own_form hMo
      have hM0 : OwnEr W (b3 + 1) (.slice MA M.length mcap) M := ⟨hMo, fun p hp => hMr p hp⟩
      replace hM0 := hide hM0
      clear hMo hMr
      gi_wp2_with (gi_at_call 51; refine (in_round (hin.out _ hX00.out)).mono ?_; rintro ee W2 ⟨g2, rfl, hog, hX3⟩; obtain ⟨GA, gcap, rfl⟩ := own_form hog; have hz3 := hX3.size)
      have q3 := hide ((o3.ext hX3).cell 0 rfl)
      have o3a := hide (o3.ext hX3)
      have hMa := hide (hM0.out.ext hX3)
      have hed := hide (fun w' (hX' : Ext W2 w') => edgesOf_c q R (.slice RA q.length rcap) (.slice GA R.length gcap) w' (Sl.ext hr (hX3.trans hX')) h8 (Sl.ext (own_jw (S := []) hog (by simp)) hX') (by omega))
      refine wpIn_region_list_tail 4 [(.is (.slice MA M.length mcap)), (.is (.slice RA q.length rcap)), (.is (.slice GA R.length gcap)), ownF W2.heap.size q R] (by kernel_rfl) (by kernel_rfl) (by kernel_rfl) (by kernel_rfl) (by kernel_rfl) (by kernel_rfl) (by kernel_rfl) (by kernel_rfl) ?_ ?_
      · refine ⟨?_, ?_, ?_, ?_, trivial⟩
        · intro b w' h hE
          have f6 : b.tmps.getD 6 undef = .pointer (some ⟨b3, 0, none⟩) := hE 6 (of_decide_eq_true (by kernel_rfl))
          have c0 := cell_later h.ext q3.out
          exact good_load (wanted_none rfl) rfl f6 (by simp [go_sem, c0]) rfl
        · intro b w' h hE
          have f7 : b.tmps.getD 7 undef = .slice RA q.length rcap := hE 7 (of_decide_eq_true (by kernel_rfl))
          exact good_move (wanted_none rfl) rfl f7
        · intro b w' h hE
          have f9 : b.tmps.getD 9 undef = .slice GA R.length gcap := hE 9 (of_decide_eq_true (by kernel_rfl))
          exact good_move (wanted_none rfl) rfl f9
        · intro b w' h hE
          have f25 : b.tmps.getD 25 undef = .slice RA q.length rcap := h.dep 1 _ 25 (by kernel_rfl) rfl rfl
          have g25 : b.tmps[25]?.getD undef = .slice RA q.length rcap := by rw [← Array.getD_eq_getD_getElem?]; exact f25
          have f26 : b.tmps.getD 26 undef = .slice GA R.length gcap := h.dep 2 _ 26 (by kernel_rfl) rfl rfl
          have g26 : b.tmps[26]?.getD undef = .slice GA R.length gcap := by rw [← Array.getD_eq_getD_getElem?]; exact f26
          refine good_call (wanted_none rfl) rfl (enters Tryz.func77 (by kernel_rfl) rfl) ?_
          rw [show (#[.tmp 25, .tmp 26] : Array Operand).map b.eval = #[.slice RA q.length rcap, .slice GA R.length gcap] by simp [Act.eval, g25, g26]]
          exact (hed.out w' h.ext).mono fun e w1 ⟨v, M2, he, hM2, ho, hx⟩ => ⟨v, he, ⟨M2, hM2, ho.lower h.ext.size⟩, hx⟩
      · intro b w2 hX2 hd hz he' hf
        have e24 : b.tmps.getD 24 undef = .slice MA M.length mcap := hf 0 _ 24 (by omega) rfl rfl
        have e25 : b.tmps.getD 25 undef = .slice RA q.length rcap := hf 1 _ 25 (by omega) rfl rfl
        have e26 : b.tmps.getD 26 undef = .slice GA R.length gcap := hf 2 _ 26 (by omega) rfl rfl
        have f27 : ∃ M2, eds M2 = R.map (fun j => (q, j)) ∧ OwnEr w2 W2.heap.size (b.tmps.getD 27 undef) M2 := hf 3 _ 27 (by omega) rfl rfl
        have e := frame_puts hd hz he'
        obtain ⟨X, hXx⟩ : ∃ X : Nat → Value, ∀ d, b.tmps.getD d undef = X d := ⟨_, fun _ => rfl⟩
        rw [hXx] at e24 e25 e26 f27
        obtain ⟨M2, hM2, f27⟩ := f27
        obtain ⟨A27, c27, q27⟩ := own_form f27.1
        rw [show dstsOf _ = [24, 25, 26, 27] from rfl] at e
        simp only [List.foldl_cons, List.foldl_nil, hXx, Act.put, List.setIfInBounds_toArray, List.set_cons_succ, List.set_cons_zero] at e
        rw [e24, e25, e26, q27] at e
        rw [q27] at f27
        replace f27 := hide f27
        clear hf he' hz hd hXx e24 e25 e26 q27
        subst e
        have hzw := hX2.size
        simp only [List.drop_succ_cons, List.drop_zero]
        have hl2 : M2.length = R.length := by have := congrArg List.length hM2; simpa [eds] using this
        have o3b := hide (o3a.out.ext hX2)
        have hMb := hide (hMa.out.ext hX2)
        have hno := Ob.not_own o3b.out hMb.out.1 (by decide)
        replace hM2 := hide hM2
        replace hl2 := hide hl2
        go_wp2_with (at_builtin; (refine wpl_app tEdg rfl (.tmp 24) (.tmp 27) rfl rfl hMb.out.1 rfl (src_sl Tryz.underlying22 f27.out.ew.1 (Ew.one f27.out.ew) (by omega)) (by unfold maxLen; have := hl2.out; omega) (by have := hl2.out; omega) (by omega) ?_; intro v8 w8 ho8 hg8 hob8; obtain ⟨A8, c8, rfl⟩ := own_form ho8; have o3c := o3b.out.grown hg8 (Ne.symm hno); have k3 := o3c.cell 0 rfl; have f3 := o3c.free 0; have hlt3 := o3c.lt; haveI : In b3 w8 := ⟨hlt3⟩))
        have hM8 : OwnEr w8 (b3 + 1) (.slice A8 (M.length + M2.length) c8) (M ++ M2) := hMb.out.app (own_appE ho8) hg8 hob8 (fun p hp => ⟨_, f27.out.2 p hp, fun q hq => List.mem_append_right _ (List.mem_range.2 (by
          rcases List.mem_append.1 hq with hq | hq
          · have := (ob_ge hM0.out.1 q hq).2; omega
          · have := List.mem_range.1 hq; omega))⟩)
        have hFr : Fr (ob (Value.slice MA M.length mcap) ++ [b3]) W (w8.setCell ⟨b3, 0, none⟩ (.slice A8 (M.length + M2.length) c8)) := ((Fr.of_ext (hX3.trans hX2)).grown hg8 (fun k hk => .inl (List.mem_append_left _ (by unfold ob; rw [show (Value.slice MA M.length mcap).ownBlock = some k from hk]; exact List.mem_singleton.2 rfl)))).setCell ⟨b3, 0, none⟩ _ (.inl (by simp))
        have hge : ∀ y ∈ ob (Value.slice MA M.length mcap) ++ [b3], w.heap.size ≤ y := fun y hy => by
          rcases List.mem_append.1 hy with hy | hy
          · have := (ob_ge hM0.out.1 y hy).1; omega
          · obtain rfl := List.mem_singleton.1 hy; omega
        have hcl : ∀ y ∈ ob (Value.slice MA M.length mcap) ++ [b3], ∃ T vs, Ob W y T vs := fun y hy => by
          rcases List.mem_append.1 hy with hy | hy
          · exact ob_obj hM0.out.1 y hy
          · obtain rfl := List.mem_singleton.1 hy; exact ⟨_, _, o3⟩
        have keep : ∀ {b : Nat} {T : TypeId} {vs : List Value}, Ob W b T vs → T ≠ 37 → b ≠ b3 → Ob (w8.setCell ⟨b3, 0, none⟩ (.slice A8 (M.length + M2.length) c8)) b T vs := fun h hT hb => ((h.ext (hX3.trans hX2)).grown hg8 (Ne.symm (Ob.not_own (h.ext (hX3.trans hX2)) hMb.out.1 (Ne.symm hT)))).far _ _ hb
        have hXe : Ext w (w8.setCell ⟨b3, 0, none⟩ (.slice A8 (M.length + M2.length) c8)) := (ext_grown ((hXw.trans hX3).trans hX2) hg8 (fun k hk => by have := (hM0.out.1.lt k hk).1; omega)).setCell (p := ⟨b3, 0, none⟩) (by show w.heap.size ≤ b3; omega) _
        have hF3 : Fr [b3] w8 (w8.setCell ⟨b3, 0, none⟩ (.slice A8 (M.length + M2.length) c8)) := (Fr.refl [b3] w8).setCell ⟨b3, 0, none⟩ _ (.inl (by simp))
        have hl3 : M.length + M2.length = (M ++ M2).length := by rw [List.length_append]
        exact show KeepsFrom _ W _ ∧ Below w.heap.size W _ ∧ _ from ⟨keeps_fr hFr hcl, below_fr hFr hzW hge, ⟨keep o0 (by decide) (by omega), keep o1 (by decide) (by omega), keep o2 (by decide) (by omega)⟩,
          ⟨_, M ++ M2, ⟨o3c.set 0 _, own_fr hM8.1 hF3 (by simp), fun p hp => Sl.set (hM8.2 p hp) _ _ (List.mem_append_right _ (List.mem_range.2 (by show b3 < b3 + 1; omega)))⟩,
            by show eds (M ++ M2) = _; rw [hnx.out, ← hMe.out, ← hM2.out]; simp [eds], by have := hl2.out; rw [List.length_append]; omega⟩, hXe, hok2.out⟩
    · have hbad := hide (each_bad (op := (ahOp t)) hok hx (by rw [← hE]; exact h0))
      have hne : (E != 0) = true := by simp [h0]
      replace hE := hide hE
      replace hok := hide hok
      replace h0 := hide h0
      have hmem : ∀ y ∈ [b1, b2], ∃ T vs, Ob W y T vs := by
        intro y hy
        simp only [List.mem_cons, List.not_mem_nil, or_false] at hy
        rcases hy with rfl | rfl
        · exact ⟨_, _, o1⟩
        · exact ⟨_, _, o2⟩
      replace hmem := hide hmem
      replace hMe := hide hMe
      have hb12 : b1 ≠ b2 := by omega
      clear hx hgm
      gi_wp2_with (gi_at_call 51; refine (in_round (hin.out _ hX00.out)).mono ?_; rintro ee W2 ⟨g2, rfl, hog, hX3⟩; obtain ⟨GA, gcap, rfl⟩ := own_form hog; have hz3 := hX3.size; have x1 := o1.ext hX3; have x2 := o2.ext hX3; have k1 := x1.cell 0 rfl; have k2 := x2.cell 0 rfl; have f1 := x1.free 0; have f2 := x2.free 0; have l1 := x1.lt; have l2 := x2.lt; haveI : In b1 W2 := ⟨l1⟩; haveI : In b2 W2 := ⟨l2⟩)
      have y1 : Ob ((W2.setCell ⟨b1, 0, none⟩ (.slice none 0 0)).setCell ⟨b2, 0, none⟩ (.int .i64 E)) b1 22 [.slice none 0 0] := (x1.set 0 _).far _ _ hb12
      have y2 : Ob ((W2.setCell ⟨b1, 0, none⟩ (.slice none 0 0)).setCell ⟨b2, 0, none⟩ (.int .i64 E)) b2 27 [.int .i64 E] := (x2.far ⟨b1, 0, none⟩ _ (Ne.symm hb12)).set 0 _
      exact ⟨keeps_fr (S := [b1, b2]) (((Fr.of_ext hX3).setCell ⟨b1, 0, none⟩ _ (.inl (by simp))).setCell ⟨b2, 0, none⟩ _ (.inl (by simp))) hmem.out, ⟨⟨rfl, by omega⟩, y1, E, y2, by rw [hbad.out, ← hE.out], h0.out⟩, ((hXw.trans hX3).setCell (p := ⟨b1, 0, none⟩) (by show w.heap.size ≤ b1; omega) _).setCell (p := ⟨b2, 0, none⟩) (by show w.heap.size ≤ b2; omega) _⟩
  case done =>
    rintro D W hD ⟨⟨o0, o1, o2⟩, ⟨mv, M, ⟨o3, hMo, hMr⟩, hMe, hMl⟩, hXw, hok⟩ hK
    rw [List.take_of_length_le (Nat.le_refl _)] at hMe hok
    have hev := evE_ok hok
    have hML : M.length = (evL (ahOp t) (grp (eds L))).length := by rw [← hMe]; simp [eds]
    have q1 := o1.cell 0 rfl
    have q2 := o2.cell 0 rfl
    have q3 := o3.cell 0 rfl
    have f1 := o1.free 0
    have f2 := o2.free 0
    have l1 := o1.lt
    have l2 := o2.lt
    have l3 := o3.lt
    haveI : In b1 W := ⟨l1⟩
    haveI : In b2 W := ⟨l2⟩
    have hb12 : b1 ≠ b2 := by omega
    obtain ⟨MA, mcap, rfl⟩ := own_form hMo
    by_cases h4 : 4096 < M.length
    · have hE7 := hide (show eachE (ahOp t) (grp (eds L)) = 7 by unfold eachE; rw [if_pos hev, if_pos (by omega)])
      have hR0 := hide (show eachR (ahOp t) (grp (eds L)) = [] by unfold eachR; rw [hE7.out, if_neg (by decide)])
      have h4I : (4096 : Int) < M.length := by omega
      replace hok := hide hok
      replace hMe := hide hMe
      replace hev := hide hev
      replace hML := hide hML
      replace hMr := hide hMr
      go_wp2
      have y1 : Ob ((W.setCell ⟨b1, 0, none⟩ (.slice none 0 0)).setCell ⟨b2, 0, none⟩ (.int .i64 7)) b1 22 [.slice none 0 0] := (o1.set 0 _).far _ _ hb12
      have y2 : Ob ((W.setCell ⟨b1, 0, none⟩ (.slice none 0 0)).setCell ⟨b2, 0, none⟩ (.int .i64 7)) b2 27 [.int .i64 7] := (o2.far ⟨b1, 0, none⟩ _ (Ne.symm hb12)).set 0 _
      have hK2 := (KeepsOthers.setCell (W.setCell ⟨b1, 0, none⟩ (.slice none 0 0)) ⟨b2, 0, none⟩ (.int .i64 7)).same D _ ((KeepsOthers.setCell W ⟨b1, 0, none⟩ (.slice none 0 0)).same D _ hK rfl) rfl
      have z1 := (ob_put (o' := .deferred none) hK2 rfl y1).cell 0 rfl
      have z2 := (ob_put (o' := .deferred none) hK2 rfl y2).cell 0 rfl
      refine ret_mark hK2 (v := .tuple #[.slice none 0 0, .int .i64 7]) ?_ ⟨_, [], by rw [hE7.out], by rw [hR0.out]; rfl, OwnEr.nil _ _, put_ext ((hXw.setCell (p := ⟨b1, 0, none⟩) (by show w.heap.size ≤ b1; omega) _).setCell (p := ⟨b2, 0, none⟩) (by show w.heap.size ≤ b2; omega) _) (by omega) _⟩
      simp [results, Tryz.f50, go_sem, z1, z2]
    · have hE0 := hide (show eachE (ahOp t) (grp (eds L)) = 0 by unfold eachE; rw [if_pos hev, if_neg (by omega)])
      have hR0 := hide (show eachR (ahOp t) (grp (eds L)) = eds M by unfold eachR; rw [hE0.out, if_pos rfl, hMe])
      have h4I : (M.length : Int) ≤ 4096 := by omega
      have hM0 : OwnEr W (b3 + 1) (.slice MA M.length mcap) M := ⟨hMo, fun p hp => hMr p hp⟩
      replace hM0 := hide hM0
      replace hok := hide hok
      replace hMe := hide hMe
      replace hev := hide hev
      replace hML := hide hML
      clear hMo hMr
      go_wp2
      have y1 : Ob ((W.setCell ⟨b1, 0, none⟩ (.slice MA M.length mcap)).setCell ⟨b2, 0, none⟩ (.int .i64 0)) b1 22 [.slice MA M.length mcap] := (o1.set 0 _).far _ _ hb12
      have y2 : Ob ((W.setCell ⟨b1, 0, none⟩ (.slice MA M.length mcap)).setCell ⟨b2, 0, none⟩ (.int .i64 0)) b2 27 [.int .i64 0] := (o2.far ⟨b1, 0, none⟩ _ (Ne.symm hb12)).set 0 _
      have hF2 : Fr [b1, b2] W ((W.setCell ⟨b1, 0, none⟩ (.slice MA M.length mcap)).setCell ⟨b2, 0, none⟩ (.int .i64 0)) := ((Fr.refl [b1, b2] W).setCell ⟨b1, 0, none⟩ _ (.inl (by simp))).setCell ⟨b2, 0, none⟩ _ (.inl (by simp))
      have hin12 : ∀ x ∈ [b1, b2], x < b3 + 1 := by intro x hx; simp only [List.mem_cons, List.not_mem_nil, or_false] at hx; omega
      have hK2 := (KeepsOthers.setCell (W.setCell ⟨b1, 0, none⟩ (.slice MA M.length mcap)) ⟨b2, 0, none⟩ (.int .i64 0)).same D _ ((KeepsOthers.setCell W ⟨b1, 0, none⟩ (.slice MA M.length mcap)).same D _ hK rfl) rfl
      have z1 := (ob_put (o' := .deferred none) hK2 rfl y1).cell 0 rfl
      have z2 := (ob_put (o' := .deferred none) hK2 rfl y2).cell 0 rfl
      have hM2 : OwnEr (((W.setCell ⟨b1, 0, none⟩ (.slice MA M.length mcap)).setCell ⟨b2, 0, none⟩ (.int .i64 0)).putObj D (.deferred none)) (b3 + 1) (.slice MA M.length mcap) M :=
        ⟨(Stab.own (B := 0) _ _ _ _ _ _).put _ D _ _ (own_fr hM0.out.1 hF2 hin12) (Nat.zero_le _) hK2 rfl, fun p hp => (Stab.sl (B := 0) _ _ _ _ _).put _ D _ _ (Sl.fr (hM0.out.2 p hp) hF2 (fun x hx => List.mem_append_right _ (List.mem_range.2 (hin12 x hx)))) (Nat.zero_le _) hK2 rfl⟩
      refine ret_mark hK2 (v := .tuple #[.slice MA M.length mcap, .int .i64 0]) ?_ ⟨_, M, by rw [hE0.out], hR0.out.symm, hM2.lower (by omega), put_ext ((hXw.setCell (p := ⟨b1, 0, none⟩) (by show w.heap.size ≤ b1; omega) _).setCell (p := ⟨b2, 0, none⟩) (by show w.heap.size ≤ b2; omega) _) (by omega) _⟩
      simp [results, Tryz.f50, go_sem, z1, z2]
  case stop =>
    rintro D c k W hD hk ⟨⟨⟨rfl, -⟩, o1, E, o2, hE, hE0⟩, hXw⟩ hK
    have hR0 := hide (show eachR (ahOp t) (grp (eds L)) = [] by unfold eachR; rw [hE, if_neg hE0])
    replace hE := hide hE
    replace hE0 := hide hE0
    go_wp2
    have z1 := (ob_put (o' := .deferred none) hK rfl o1).cell 0 rfl
    have z2 := (ob_put (o' := .deferred none) hK rfl o2).cell 0 rfl
    refine ret_mark hK (v := .tuple #[.slice none 0 0, .int .i64 E]) ?_ ⟨_, [], by rw [hE.out], by rw [hR0.out]; rfl, OwnEr.nil _ _, put_ext hXw (by omega) _⟩
    simp [results, Tryz.f50, go_sem, z1, z2]
end Go.Proofs.YtljkneajdndgjabGreat
