/-
  A helper of ours: no claim of its own. Layer 10 (edge): copies of edges in form, by the code.
-/
import Derived.Test.YtljkneajdndgjaaRowS
import Derived.RangeFuncNested
import Derived.Test.YtljkneajdndgjaaIdx
import Derived.Test.YtljkneajdndgjaaEdgEn
import Derived.Test.YtljkneajdndgjaaHopS
set_option linter.unusedVariables false
set_option linter.unusedSimpArgs false
namespace Go.Proofs.Ytljkneajdndgjaa
open Go.RowKit
section
variable {β : Type} {P : Program} {g : Operand} {ps : Array Tmp} {assign body : Code} {Q : Exit → Act → World → Prop} {a : Act} {w w0 : World} {gf : Nat} {Kp : World → Prop} {lb : Array Value} {H : β → Array Value → World → Prop} {xs : List β}
end

end Go.Proofs.Ytljkneajdndgjaa
set_option linter.unusedVariables false
set_option linter.unusedSimpArgs false
namespace Go.Proofs.Ytljkneajdndgjaa
open Go.RowKit
theorem rw_box {W : World} {S : List Nat} {v : Value} {r : List Vl} {b : Nat} {T : TypeId} {A : Option Addr} {n cap : Nat} (h : Rw W S v r) (o : Ob W b T [.slice A n cap]) : Rw W (b :: S) v r := by
  obtain ⟨B, k, rfl, h1, h2, h3, h4⟩ := h
  refine ⟨B, k, rfl, h1, h2, h3, ?_⟩
  rcases h4 with h4 | ⟨c, p, e, hcS, hc⟩
  · exact .inl h4
  · rcases r with _ | ⟨x, r⟩
    · exact .inl rfl
    · refine .inr ⟨c, p, e, ?_, hc⟩
      intro hcb
      rcases List.mem_cons.1 hcb with hcb | hcb
      · subst hcb
        have q := hc 0 (.int .i64 x.1) rfl
        rw [cell_of_row W c (p + 0) _ T (0, 0) o] at q
        rcases p with _ | p
        · simp at q
        · simp at q
      · exact hcS hcb
theorem ew_box {W : World} {S : List Nat} {v : Value} {L : List Ve} {b : Nat} {T : TypeId} {A : Option Addr} {n cap : Nat} (h : Ew W S v L) (o : Ob W b T [.slice A n cap]) : Ew W (b :: S) v L := by
  refine ⟨?_, fun p hp => rw_box (h.2 p hp) o⟩
  obtain ⟨B, k, rfl, h1, h2, h3, h4⟩ := h.1
  refine ⟨B, k, rfl, h1, h2, h3, ?_⟩
  rcases h4 with h4 | ⟨c, p, e, hcS, hc⟩
  · exact .inl h4
  · rcases L with _ | ⟨x, L⟩
    · exact .inl rfl
    · refine .inr ⟨c, p, e, ?_, hc⟩
      intro hcb
      rcases List.mem_cons.1 hcb with hcb | hcb
      · subst hcb
        have q := hc 1 (.int .i64 x.2.2.1) rfl
        rw [cell_of_row W c (p + 1) _ T (0, 0) o] at q
        simp at q
      · exact hcS hcb
end Go.Proofs.Ytljkneajdndgjaa
set_option linter.unusedVariables false
set_option linter.unusedSimpArgs false
namespace Go.Proofs.Ytljkneajdndgjaa
open Go.RowKit
attribute [local go_sem] GW.cell GW.frozen In.eq_true In.le_true In.ne In.ne' In.ne_add In.ne_add' In.lt_add Upto.le_true Upto.le_add Upto.lt_add Oper.semAt_some wide_depth wide_fn
def cpOp (f : List Jp) : Int × List Jp := (0, f)
set_option maxHeartbeats 8000000 in
set_option maxRecDepth 100000 in
theorem copies_c (L : List Ve) (v : Value) (w : World) (hC : Ew w [] v L) (hL : L.length ≤ 8192) (hG : ∀ g ∈ grp (eds L), g.1.length ≤ 8 ∧ g.2.length ≤ 1024) : Calls Try.prog 50 #[v] w fun e w' => ∃ v' M, e = .returned v' ∧ eds M = eds L ∧ OwnEr w' w.heap.size v' M ∧ Ext w w' := by
  obtain ⟨A, cap, rfl, hlc, hlm, -⟩ := ew_form hC
  unfold maxLen at hlm
  refine calls_marks Try.func50 rfl ?_
  simp only [Try.ntmps50, List.size_toArray, List.length_cons, List.length_nil, Nat.reduceAdd, Nat.reduceSub, Array.replicate_succ, Array.replicate_zero, List.push_toArray, List.append_toArray, List.nil_append, List.cons_append]
  have a3 : Ob (w.alloc (.cells #[.slice none 0 0] 22)) w.heap.size 22 [.slice none 0 0] := Ob.new w 22 [.slice none 0 0]
  have hX0 : Ext w (w.alloc (.cells #[.slice none 0 0] 22)) := (Ext.refl w).alloc _
  have hGl := grp_len (eds L)
  rw [List.length_map] at hGl
  replace hG := hide hG
  replace hC := hide hC
  go_wp2_with (go_at_call 47; refine (functions_c _ _ _ _).mono ?_; rintro ee w1 ⟨b, rfl, hb, hle, hX1⟩)
  have hX2 := hide (hX0.trans hX1)
  have p3 := a3.ext hX1
  have hz2 := hX2.out.size
  obtain ⟨b3, hb3⟩ : ∃ b3, w.heap.size = b3 := ⟨_, rfl⟩
  rw [hb3] at p3
  clear a3 hle hX0 hX1
  refine wp_range (xs := grp (eds L)) rfl (enters_of Try.func70 (by kernel_rfl) rfl) (functions_seq L _ w w1 b hC.out (by omega) hX2.out hb) (Ext.refl _) hX2.out.size (fun x vs W h => h.size) (fun x vs => Hg.stab x vs)
    (fun k W => (∃ mv, ∃ M : List Ve, (Ob W b3 22 [mv] ∧ (OwnE W (b3 + 1) mv M ∧ ∀ p, ∀ (_ : p ∈ M), Rw W (ob mv ++ List.range (b3 + 1)) p.1 p.2.1)) ∧ (eds M = evL cpOp ((grp (eds L)).take k) ∧ M.length ≤ 1024 * k)) ∧ Ext w W)
    (fun c k W => False ∧ Ext w W)
    (fun k => (Stab.ex fun mv => Stab.ex fun M => ((Stab.ob _ _ _).and ((Stab.own _ _ _ _ _ _).and (Stab.all fun p => Stab.all fun _ => Stab.sl _ _ _ _ _))).and (Stab.pure _)).and (Stab.of_ext hz2))
    (fun c k => (Stab.pure _).and (Stab.of_ext hz2))
    ⟨⟨_, [], ⟨p3, World.ownsRow_nil _ _ _ _, by simp⟩, by simp [evL, eds], by simp⟩, hX2.out⟩
    (fun k x vs a' _ => ∃ r f, vs = #[r, f] ∧ a' = { tmps := #[.slice A L.length cap, undef, .slice none 0 0, .pointer (some ⟨b3, 0, none⟩), r, f, .slice A L.length cap, .func (.func 70) #[] #[.pointer (some ⟨b, 0, none⟩)], r, f, undef, undef, undef, undef, undef, undef], defers := [] })
    (fun k x vs a' => Stab.pure _) ?assign ?body ?done ?stop
  case assign =>
    rintro LL k x vs W K _ ⟨r, f, rfl, -, -⟩ hK
    gi_wp2
    exact hK _ _ (Ext.refl _) ⟨r, f, rfl, by rw [← hb3]⟩
  case body =>
    rintro LL k x vs a' W hx ⟨⟨mv, M, ⟨o3, hMo, hMr⟩, hMe, hMl⟩, hXw⟩ ⟨r', f', e', hr, hf⟩ ⟨r, f, rfl, rfl⟩
    obtain ⟨rfl, rfl⟩ : r = r' ∧ f = f' := by simpa using e'
    obtain ⟨q, J⟩ := x
    have hgm : (q, J) ∈ grp (eds L) := List.mem_of_getElem? hx
    have hkl := (List.getElem?_eq_some_iff.1 hx).1
    obtain ⟨h8, hJl⟩ := hG.out (q, J) hgm
    simp only at h8 hJl
    have hb3W := o3.lt
    have hzW := hXw.size
    have hfk := hide hf
    obtain ⟨JA, jcap, rfl, -, -, -⟩ := jw_form hf
    obtain ⟨RA, rcap, rfl⟩ := rw_val hr
    have hnx := hide (show evL cpOp ((grp (eds L)).take (k + 1)) = evL cpOp ((grp (eds L)).take k) ++ J.map fun j => (q, j) by rw [List.take_add_one, hx, Option.toList_some, evL_snoc]; rfl)
    replace hMe := hide hMe
    clear hx hgm hf
    obtain ⟨MA, mcap, rfl⟩ := own_form hMo
    have hM0 : OwnEr W (b3 + 1) (.slice MA M.length mcap) M := ⟨hMo, fun p hp => hMr p hp⟩
    replace hM0 := hide hM0
    clear hMo hMr
    have q3 := hide (o3.cell 0 rfl)
    have hed := hide (fun w' (hX' : Ext W w') => edgesOf_c q J (.slice RA q.length rcap) (.slice JA J.length jcap) w' (Sl.ext hr hX') h8 (Sl.ext hfk.out hX') (by omega))
    try gi_wp2_with fail
    refine wpIn_region_list_tail 4 [(.is (.slice MA M.length mcap)), (.is (.slice RA q.length rcap)), (.is (.slice JA J.length jcap)), ownF W.heap.size q J] (by kernel_rfl) (by kernel_rfl) (by kernel_rfl) (by kernel_rfl) (by kernel_rfl) (by kernel_rfl) (by kernel_rfl) (by kernel_rfl) ?_ ?_
    · refine ⟨?_, ?_, ?_, ?_, trivial⟩
      · intro b w' h hE
        have f3 : b.tmps.getD 3 undef = .pointer (some ⟨b3, 0, none⟩) := hE 3 (of_decide_eq_true (by kernel_rfl))
        have c0 := cell_later h.ext q3.out
        exact good_load (wanted_none rfl) rfl f3 (by simp [go_sem, c0]) rfl
      · intro b w' h hE
        have f4 : b.tmps.getD 4 undef = .slice RA q.length rcap := hE 4 (of_decide_eq_true (by kernel_rfl))
        exact good_move (wanted_none rfl) rfl f4
      · intro b w' h hE
        have f5 : b.tmps.getD 5 undef = .slice JA J.length jcap := hE 5 (of_decide_eq_true (by kernel_rfl))
        exact good_move (wanted_none rfl) rfl f5
      · intro b w' h hE
        have f11 : b.tmps.getD 11 undef = .slice RA q.length rcap := h.dep 1 _ 11 (by kernel_rfl) rfl rfl
        have g11 : b.tmps[11]?.getD undef = .slice RA q.length rcap := by rw [← Array.getD_eq_getD_getElem?]; exact f11
        have f12 : b.tmps.getD 12 undef = .slice JA J.length jcap := h.dep 2 _ 12 (by kernel_rfl) rfl rfl
        have g12 : b.tmps[12]?.getD undef = .slice JA J.length jcap := by rw [← Array.getD_eq_getD_getElem?]; exact f12
        refine good_call (wanted_none rfl) rfl (enters Try.func63 (by kernel_rfl) rfl) ?_
        rw [show (#[.tmp 11, .tmp 12] : Array Operand).map b.eval = #[.slice RA q.length rcap, .slice JA J.length jcap] by simp [Act.eval, g11, g12]]
        exact (hed.out w' h.ext).mono fun e w1 ⟨v, M2, he, hM2, ho, hx⟩ => ⟨v, he, ⟨M2, hM2, ho.lower h.ext.size⟩, hx⟩
    · intro b w2 hX2 hd hz he' hf
      have e10 : b.tmps.getD 10 undef = .slice MA M.length mcap := hf 0 _ 10 (by omega) rfl rfl
      have e11 : b.tmps.getD 11 undef = .slice RA q.length rcap := hf 1 _ 11 (by omega) rfl rfl
      have e12 : b.tmps.getD 12 undef = .slice JA J.length jcap := hf 2 _ 12 (by omega) rfl rfl
      have f13 : ∃ M2, eds M2 = J.map (fun j => (q, j)) ∧ OwnEr w2 W.heap.size (b.tmps.getD 13 undef) M2 := hf 3 _ 13 (by omega) rfl rfl
      have e := frame_puts hd hz he'
      obtain ⟨X, hXx⟩ : ∃ X : Nat → Value, ∀ d, b.tmps.getD d undef = X d := ⟨_, fun _ => rfl⟩
      rw [hXx] at e10 e11 e12 f13
      obtain ⟨M2, hM2, f13⟩ := f13
      obtain ⟨A13, c13, q13⟩ := own_form f13.1
      rw [show dstsOf _ = [10, 11, 12, 13] from rfl] at e
      simp only [List.foldl_cons, List.foldl_nil, hXx, Act.put, List.setIfInBounds_toArray, List.set_cons_succ, List.set_cons_zero] at e
      rw [e10, e11, e12, q13] at e
      rw [q13] at f13
      replace f13 := hide f13
      clear hf he' hz hd hXx e10 e11 e12 q13
      subst e
      have hzw := hX2.size
      simp only [List.drop_succ_cons, List.drop_zero]
      have hl2 : M2.length = J.length := by have := congrArg List.length hM2; simpa [eds] using this
      have o3b := hide (o3.ext hX2)
      have hMb := hide (hM0.out.ext hX2)
      have hno := Ob.not_own o3b.out hMb.out.1 (by decide)
      replace hM2 := hide hM2
      replace hl2 := hide hl2
      go_wp2_with (at_builtin; (refine wpl_app tEdg rfl (.tmp 10) (.tmp 13) rfl rfl hMb.out.1 rfl (src_sl Try.underlying22 f13.out.ew.1 (Ew.one f13.out.ew) (by omega)) (by unfold maxLen; have := hl2.out; omega) (by have := hl2.out; omega) (by omega) ?_; intro v8 w8 ho8 hg8 hob8; obtain ⟨A8, c8, rfl⟩ := own_form ho8; have o3c := o3b.out.grown hg8 (Ne.symm hno); have k3 := o3c.cell 0 rfl; have f3 := o3c.free 0; have hlt3 := o3c.lt; haveI : In b3 w8 := ⟨hlt3⟩))
      have hM8 : OwnEr w8 (b3 + 1) (.slice A8 (M.length + M2.length) c8) (M ++ M2) := hMb.out.app (own_appE ho8) hg8 hob8 (fun p hp => ⟨_, f13.out.2 p hp, fun q hq => List.mem_append_right _ (List.mem_range.2 (by
        rcases List.mem_append.1 hq with hq | hq
        · have := (ob_ge hM0.out.1 q hq).2; omega
        · have := List.mem_range.1 hq; omega))⟩)
      have hFr : Fr (ob (Value.slice MA M.length mcap) ++ [b3]) W (w8.setCell ⟨b3, 0, none⟩ (.slice A8 (M.length + M2.length) c8)) := ((Fr.of_ext hX2).grown hg8 (fun k hk => .inl (List.mem_append_left _ (by unfold ob; rw [show (Value.slice MA M.length mcap).ownBlock = some k from hk]; exact List.mem_singleton.2 rfl)))).setCell ⟨b3, 0, none⟩ _ (.inl (by simp))
      have hge : ∀ y ∈ ob (Value.slice MA M.length mcap) ++ [b3], w.heap.size ≤ y := fun y hy => by
        rcases List.mem_append.1 hy with hy | hy
        · have := (ob_ge hM0.out.1 y hy).1; omega
        · obtain rfl := List.mem_singleton.1 hy; omega
      have hcl : ∀ y ∈ ob (Value.slice MA M.length mcap) ++ [b3], ∃ T vs, Ob W y T vs := fun y hy => by
        rcases List.mem_append.1 hy with hy | hy
        · exact ob_obj hM0.out.1 y hy
        · obtain rfl := List.mem_singleton.1 hy; exact ⟨_, _, o3⟩
      have hXe : Ext w (w8.setCell ⟨b3, 0, none⟩ (.slice A8 (M.length + M2.length) c8)) := (ext_grown (hXw.trans hX2) hg8 (fun k hk => by have := (hM0.out.1.lt k hk).1; omega)).setCell (p := ⟨b3, 0, none⟩) (by show w.heap.size ≤ b3; omega) _
      have hF3 : Fr [b3] w8 (w8.setCell ⟨b3, 0, none⟩ (.slice A8 (M.length + M2.length) c8)) := (Fr.refl [b3] w8).setCell ⟨b3, 0, none⟩ _ (.inl (by simp))
      exact show KeepsFrom _ W _ ∧ Below w.heap.size W _ ∧ _ from ⟨keeps_fr hFr hcl, below_fr hFr hzW hge,
        ⟨_, M ++ M2, ⟨o3c.set 0 _, own_fr hM8.1 hF3 (by simp), fun p hp => Sl.set (hM8.2 p hp) _ _ (List.mem_append_right _ (List.mem_range.2 (by show b3 < b3 + 1; omega)))⟩,
          by show eds (M ++ M2) = _; rw [hnx.out, ← hMe.out, ← hM2.out]; simp [eds], by have := hl2.out; rw [List.length_append]; omega⟩, hXe⟩
  case done =>
    rintro D W hD ⟨⟨mv, M, ⟨o3, hMo, hMr⟩, hMe, hMl⟩, hXw⟩ hK
    rw [List.take_of_length_le (Nat.le_refl _), show cpOp = fun f => (0, f) from rfl, grp_back] at hMe
    have q3 := o3.cell 0 rfl
    have l3 := o3.lt
    obtain ⟨MA, mcap, rfl⟩ := own_form hMo
    have hM0 : OwnEr W (b3 + 1) (.slice MA M.length mcap) M := ⟨hMo, fun p hp => hMr p hp⟩
    replace hM0 := hide hM0
    replace hMe := hide hMe
    clear hMo hMr
    subst hb3
    go_wp2
    have hM2 : OwnEr (W.putObj D (.deferred none)) (w.heap.size + 1) (.slice MA M.length mcap) M :=
      ⟨(Stab.own (B := 0) _ _ _ _ _ _).put _ D _ _ hM0.out.1 (Nat.zero_le _) hK rfl, fun p hp => (Stab.sl (B := 0) _ _ _ _ _).put _ D _ _ (hM0.out.2 p hp) (Nat.zero_le _) hK rfl⟩
    refine ret_mark hK (v := .slice MA M.length mcap) ?_ ⟨_, M, rfl, hMe.out, hM2.lower (by omega), put_ext hXw (by omega) _⟩
    simp [results, Try.f50, go_sem]
  case stop =>
    rintro D c k W hD hk ⟨h, -⟩ hK
    exact h.elim
end Go.Proofs.Ytljkneajdndgjaa
