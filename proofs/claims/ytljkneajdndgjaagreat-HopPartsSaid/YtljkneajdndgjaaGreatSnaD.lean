/-
  A helper of ours: no claim of its own. Layer 27 (snap): the rows that are there at a tick, by the code.
-/
import Derived.Test.YtljkneajdndgjaaGreatSnaM
import Derived.Test.YtljkneajdndgjaaGreatEdgGr
import Derived.Test.YtljkneajdndgjaaGreatRgx
import Derived.Test.YtljkneajdndgjaaGreatHopR
import Derived.Test.YtljkneajdndgjaaGreatEdgM
import Derived.Sort.LoopGhostIn
import Derived.Test.YtljkneajdndgjaaGreatStepE
set_option linter.unusedVariables false
set_option linter.unusedSimpArgs false
namespace Go.Proofs.YtljkneajdndgjaaGreat
open Go.RowKit
attribute [local go_sem] GW.cell GW.frozen In.eq_true In.le_true In.ne In.ne' In.ne_add In.ne_add' In.lt_add Upto.le_true Upto.le_add Upto.lt_add Oper.semAt_some wide_depth wide_fn
def cpOp (f : List Jp) : Int × List Jp := (0, f)
set_option maxHeartbeats 8000000 in
set_option maxRecDepth 100000 in
theorem copies_c (L : List Ve) (v : Value) (w : World) (hC : Ew w [] v L) (hL : L.length ≤ 8192) (hG : ∀ g ∈ grp (eds L), g.1.length ≤ 8 ∧ g.2.length ≤ 1024) : Calls Tryz.prog 145 #[v] w fun e w' => ∃ v' M, e = .returned v' ∧ eds M = eds L ∧ OwnEr w' w.heap.size v' M ∧ Ext w w' := by
  obtain ⟨A, cap, rfl, hlc, hlm, -⟩ := ew_form hC
  unfold maxLen at hlm
  refine calls_marks Tryz.func145 rfl ?_
  simp only [Tryz.ntmps145, List.size_toArray, List.length_cons, List.length_nil, Nat.reduceAdd, Nat.reduceSub, Array.replicate_succ, Array.replicate_zero, List.push_toArray, List.append_toArray, List.nil_append, List.cons_append]
  have a3 : Ob (w.alloc (.cells #[.slice none 0 0] 25)) w.heap.size 25 [.slice none 0 0] := Ob.new w 25 [.slice none 0 0]
  have hX0 : Ext w (w.alloc (.cells #[.slice none 0 0] 25)) := (Ext.refl w).alloc _
  have hGl := grp_len (eds L)
  rw [List.length_map] at hGl
  replace hG := hide hG
  replace hC := hide hC
  go_wp2_with (go_at_call 98; refine (functions_c _ _ _ _).mono ?_; rintro ee w1 ⟨b, rfl, hb, hle, hX1⟩)
  have hX2 := hide (hX0.trans hX1)
  have p3 := a3.ext hX1
  have hz2 := hX2.out.size
  obtain ⟨b3, hb3⟩ : ∃ b3, w.heap.size = b3 := ⟨_, rfl⟩
  rw [hb3] at p3
  clear a3 hle hX0 hX1
  refine wp_range (xs := grp (eds L)) rfl (enters_of Tryz.func141 (by kernel_rfl) rfl) (functions_seq L _ w w1 b hC.out (by omega) hX2.out hb) (Ext.refl _) hX2.out.size (fun x vs W h => h.size) (fun x vs => Hg.stab x vs)
    (fun k W => (∃ mv, ∃ M : List Ve, (Ob W b3 25 [mv] ∧ (OwnE W (b3 + 1) mv M ∧ ∀ p, ∀ (_ : p ∈ M), Rw W (ob mv ++ List.range (b3 + 1)) p.1 p.2.1)) ∧ (eds M = evL cpOp ((grp (eds L)).take k) ∧ M.length ≤ 1024 * k)) ∧ Ext w W)
    (fun c k W => False ∧ Ext w W)
    (fun k => (Stab.ex fun mv => Stab.ex fun M => ((Stab.ob _ _ _).and ((Stab.own _ _ _ _ _ _).and (Stab.all fun p => Stab.all fun _ => Stab.sl _ _ _ _ _))).and (Stab.pure _)).and (Stab.of_ext hz2))
    (fun c k => (Stab.pure _).and (Stab.of_ext hz2))
    ⟨⟨_, [], ⟨p3, World.ownsRow_nil _ _ _ _, by simp⟩, by simp [evL, eds], by simp⟩, hX2.out⟩
    (fun k x vs a' _ => ∃ r f, vs = #[r, f] ∧ a' = { tmps := #[.slice A L.length cap, undef, .slice none 0 0, .pointer (some ⟨b3, 0, none⟩), r, f, .slice A L.length cap, .func (.func 141) #[] #[.pointer (some ⟨b, 0, none⟩)], r, f, undef, undef, undef, undef, undef, undef], defers := [] })
    (fun k x vs a' => Stab.pure _) ?assign ?body ?done ?stop
  case assign =>
    rintro LL k x vs W K _ ⟨r, f, rfl, -, -⟩ hK
    gi_wp2
    exact hK _ _ (Ext.refl _) ⟨r, f, rfl, by rw [← hb3]⟩
  case body =>
    rintro LL k x vs a' W hx ⟨⟨mv, M, ⟨o3, hMo, hMr⟩, hMe, hMl⟩, hXw⟩ ⟨r', f', e', hr, hf⟩ ⟨r, f, rfl, rfl⟩
    obtain ⟨rfl, rfl⟩ : r = r' ∧ f = f' := by simpa using e'
    obtain ⟨q, J⟩ := x
    have hgm : (q, J) ∈ grp (eds L) := List.mem_of_getElem? hx
    have hkl := (List.getElem?_eq_some_iff.1 hx).1
    obtain ⟨h8, hJl⟩ := hG.out (q, J) hgm
    simp only at h8 hJl
    have hb3W := o3.lt
    have hzW := hXw.size
    have hfk := hide hf
    obtain ⟨JA, jcap, rfl, -, -, -⟩ := jw_form hf
    obtain ⟨RA, rcap, rfl⟩ := rw_val hr
    have hnx := hide (show evL cpOp ((grp (eds L)).take (k + 1)) = evL cpOp ((grp (eds L)).take k) ++ J.map fun j => (q, j) by rw [List.take_add_one, hx, Option.toList_some, evL_snoc]; rfl)
    replace hMe := hide hMe
    clear hx hgm hf
    obtain ⟨MA, mcap, rfl⟩ := own_form hMo
    have hM0 : OwnEr W (b3 + 1) (.slice MA M.length mcap) M := ⟨hMo, fun p hp => hMr p hp⟩
    replace hM0 := hide hM0
    clear hMo hMr
    have q3 := hide (o3.cell 0 rfl)
    have hed := hide (fun w' (hX' : Ext W w') => edgesOf_c q J (.slice RA q.length rcap) (.slice JA J.length jcap) w' (Sl.ext hr hX') h8 (Sl.ext hfk.out hX') (by omega))
    try gi_wp2_with fail
    refine wpIn_region_list_tail 4 [(.is (.slice MA M.length mcap)), (.is (.slice RA q.length rcap)), (.is (.slice JA J.length jcap)), ownF W.heap.size q J] (by kernel_rfl) (by kernel_rfl) (by kernel_rfl) (by kernel_rfl) (by kernel_rfl) (by kernel_rfl) (by kernel_rfl) (by kernel_rfl) ?_ ?_
    · refine ⟨?_, ?_, ?_, ?_, trivial⟩
      · intro b w' h hE
        have f3 : b.tmps.getD 3 undef = .pointer (some ⟨b3, 0, none⟩) := hE 3 (of_decide_eq_true (by kernel_rfl))
        have c0 := cell_later h.ext q3.out
        exact good_load (wanted_none rfl) rfl f3 (by simp [go_sem, c0]) rfl
      · intro b w' h hE
        have f4 : b.tmps.getD 4 undef = .slice RA q.length rcap := hE 4 (of_decide_eq_true (by kernel_rfl))
        exact good_move (wanted_none rfl) rfl f4
      · intro b w' h hE
        have f5 : b.tmps.getD 5 undef = .slice JA J.length jcap := hE 5 (of_decide_eq_true (by kernel_rfl))
        exact good_move (wanted_none rfl) rfl f5
      · intro b w' h hE
        have f11 : b.tmps.getD 11 undef = .slice RA q.length rcap := h.dep 1 _ 11 (by kernel_rfl) rfl rfl
        have g11 : b.tmps[11]?.getD undef = .slice RA q.length rcap := by rw [← Array.getD_eq_getD_getElem?]; exact f11
        have f12 : b.tmps.getD 12 undef = .slice JA J.length jcap := h.dep 2 _ 12 (by kernel_rfl) rfl rfl
        have g12 : b.tmps[12]?.getD undef = .slice JA J.length jcap := by rw [← Array.getD_eq_getD_getElem?]; exact f12
        refine good_call (wanted_none rfl) rfl (enters Tryz.func100 (by kernel_rfl) rfl) ?_
        rw [show (#[.tmp 11, .tmp 12] : Array Operand).map b.eval = #[.slice RA q.length rcap, .slice JA J.length jcap] by simp [Act.eval, g11, g12]]
        exact (hed.out w' h.ext).mono fun e w1 ⟨v, M2, he, hM2, ho, hx⟩ => ⟨v, he, ⟨M2, hM2, ho.lower h.ext.size⟩, hx⟩
    · intro b w2 hX2 hd hz he' hf
      have e10 : b.tmps.getD 10 undef = .slice MA M.length mcap := hf 0 _ 10 (by omega) rfl rfl
      have e11 : b.tmps.getD 11 undef = .slice RA q.length rcap := hf 1 _ 11 (by omega) rfl rfl
      have e12 : b.tmps.getD 12 undef = .slice JA J.length jcap := hf 2 _ 12 (by omega) rfl rfl
      have f13 : ∃ M2, eds M2 = J.map (fun j => (q, j)) ∧ OwnEr w2 W.heap.size (b.tmps.getD 13 undef) M2 := hf 3 _ 13 (by omega) rfl rfl
      have e := frame_puts hd hz he'
      obtain ⟨X, hXx⟩ : ∃ X : Nat → Value, ∀ d, b.tmps.getD d undef = X d := ⟨_, fun _ => rfl⟩
      rw [hXx] at e10 e11 e12 f13
      obtain ⟨M2, hM2, f13⟩ := f13
      obtain ⟨A13, c13, q13⟩ := own_form f13.1
      rw [show dstsOf _ = [10, 11, 12, 13] from rfl] at e
      simp only [List.foldl_cons, List.foldl_nil, hXx, Act.put, List.setIfInBounds_toArray, List.set_cons_succ, List.set_cons_zero] at e
      rw [e10, e11, e12, q13] at e
      rw [q13] at f13
      replace f13 := hide f13
      clear hf he' hz hd hXx e10 e11 e12 q13
      subst e
      have hzw := hX2.size
      simp only [List.drop_succ_cons, List.drop_zero]
      have hl2 : M2.length = J.length := by have := congrArg List.length hM2; simpa [eds] using this
      have o3b := hide (o3.ext hX2)
      have hMb := hide (hM0.out.ext hX2)
      have hno := Ob.not_own o3b.out hMb.out.1 (by decide)
      replace hM2 := hide hM2
      replace hl2 := hide hl2
      go_wp2_with (at_builtin; (refine wpl_app tEdg rfl (.tmp 10) (.tmp 13) rfl rfl hMb.out.1 rfl (src_sl Tryz.underlying25 f13.out.ew.1 (Ew.one f13.out.ew) (by omega)) (by unfold maxLen; have := hl2.out; omega) (by have := hl2.out; omega) (by omega) ?_; intro v8 w8 ho8 hg8 hob8; obtain ⟨A8, c8, rfl⟩ := own_form ho8; have o3c := o3b.out.grown hg8 (Ne.symm hno); have k3 := o3c.cell 0 rfl; have f3 := o3c.free 0; have hlt3 := o3c.lt; haveI : In b3 w8 := ⟨hlt3⟩))
      have hM8 : OwnEr w8 (b3 + 1) (.slice A8 (M.length + M2.length) c8) (M ++ M2) := hMb.out.app (own_appE ho8) hg8 hob8 (fun p hp => ⟨_, f13.out.2 p hp, fun q hq => List.mem_append_right _ (List.mem_range.2 (by
        rcases List.mem_append.1 hq with hq | hq
        · have := (ob_ge hM0.out.1 q hq).2; omega
        · have := List.mem_range.1 hq; omega))⟩)
      have hFr : Fr (ob (Value.slice MA M.length mcap) ++ [b3]) W (w8.setCell ⟨b3, 0, none⟩ (.slice A8 (M.length + M2.length) c8)) := ((Fr.of_ext hX2).grown hg8 (fun k hk => .inl (List.mem_append_left _ (by unfold ob; rw [show (Value.slice MA M.length mcap).ownBlock = some k from hk]; exact List.mem_singleton.2 rfl)))).setCell ⟨b3, 0, none⟩ _ (.inl (by simp))
      have hge : ∀ y ∈ ob (Value.slice MA M.length mcap) ++ [b3], w.heap.size ≤ y := fun y hy => by
        rcases List.mem_append.1 hy with hy | hy
        · have := (ob_ge hM0.out.1 y hy).1; omega
        · obtain rfl := List.mem_singleton.1 hy; omega
      have hcl : ∀ y ∈ ob (Value.slice MA M.length mcap) ++ [b3], ∃ T vs, Ob W y T vs := fun y hy => by
        rcases List.mem_append.1 hy with hy | hy
        · exact ob_obj hM0.out.1 y hy
        · obtain rfl := List.mem_singleton.1 hy; exact ⟨_, _, o3⟩
      have hXe : Ext w (w8.setCell ⟨b3, 0, none⟩ (.slice A8 (M.length + M2.length) c8)) := (ext_grown (hXw.trans hX2) hg8 (fun k hk => by have := (hM0.out.1.lt k hk).1; omega)).setCell (p := ⟨b3, 0, none⟩) (by show w.heap.size ≤ b3; omega) _
      have hF3 : Fr [b3] w8 (w8.setCell ⟨b3, 0, none⟩ (.slice A8 (M.length + M2.length) c8)) := (Fr.refl [b3] w8).setCell ⟨b3, 0, none⟩ _ (.inl (by simp))
      exact show KeepsFrom _ W _ ∧ Below w.heap.size W _ ∧ _ from ⟨keeps_fr hFr hcl, below_fr hFr hzW hge,
        ⟨_, M ++ M2, ⟨o3c.set 0 _, own_fr hM8.1 hF3 (by simp), fun p hp => Sl.set (hM8.2 p hp) _ _ (List.mem_append_right _ (List.mem_range.2 (by show b3 < b3 + 1; omega)))⟩,
          by show eds (M ++ M2) = _; rw [hnx.out, ← hMe.out, ← hM2.out]; simp [eds], by have := hl2.out; rw [List.length_append]; omega⟩, hXe⟩
  case done =>
    rintro D W hD ⟨⟨mv, M, ⟨o3, hMo, hMr⟩, hMe, hMl⟩, hXw⟩ hK
    rw [List.take_of_length_le (Nat.le_refl _), show cpOp = fun f => (0, f) from rfl, grp_back] at hMe
    have q3 := o3.cell 0 rfl
    have l3 := o3.lt
    obtain ⟨MA, mcap, rfl⟩ := own_form hMo
    have hM0 : OwnEr W (b3 + 1) (.slice MA M.length mcap) M := ⟨hMo, fun p hp => hMr p hp⟩
    replace hM0 := hide hM0
    replace hMe := hide hMe
    clear hMo hMr
    subst hb3
    go_wp2
    have hM2 : OwnEr (W.putObj D (.deferred none)) (w.heap.size + 1) (.slice MA M.length mcap) M :=
      ⟨(Stab.own (B := 0) _ _ _ _ _ _).put _ D _ _ hM0.out.1 (Nat.zero_le _) hK rfl, fun p hp => (Stab.sl (B := 0) _ _ _ _ _).put _ D _ _ (hM0.out.2 p hp) (Nat.zero_le _) hK rfl⟩
    refine ret_mark hK (v := .slice MA M.length mcap) ?_ ⟨_, M, rfl, hMe.out, hM2.lower (by omega), put_ext hXw (by omega) _⟩
    simp [results, Tryz.f145, go_sem]
  case stop =>
    rintro D c k W hD hk ⟨h, -⟩ hK
    exact h.elim
end Go.Proofs.YtljkneajdndgjaaGreat
set_option linter.unusedVariables false
set_option linter.unusedSimpArgs false
namespace Go.Proofs.YtljkneajdndgjaaGreat
open Go.RowKit
attribute [local go_sem] GW.cell GW.frozen In.eq_true In.le_true In.ne In.ne' In.ne_add In.ne_add' In.lt_add Upto.le_true Upto.le_add Upto.lt_add Oper.semAt_some wide_depth wide_fn
theorem grp_len2 : ∀ l : List Ed, (grp l).length ≤ l.length
  | [] => Nat.le_refl _
  | e :: l => by
    have ih := grp_len2 l
    rw [grp]
    split
    · simp
    · rename_i q f t h
      rw [h] at ih
      split <;> simp only [List.length_cons] at ih ⊢ <;> omega
/-- What is kept: a copy of the edges, if they are in form. -/
def GrPost (w : World) (L : List Ve) (b : Nat) (w' : World) : Prop := ∃ v' M, Ob w' b 25 [v'] ∧ eds M = (if mayE (eds L) then eds L else []) ∧ Ew w' [] v' M ∧ Ext w w'
set_option maxHeartbeats 8000000 in
set_option maxRecDepth 100000 in
theorem groups_c (L : List Ve) (v : Value) (w : World) (hC : Ew w [] v L) : Calls Tryz.prog 106 #[v] w fun e w' => ∃ b, e = .returned (.func (.func 146) #[] #[.pointer (some ⟨b, 0, none⟩)]) ∧ GrPost w L b w' := by
  have h1 := hide (fun w' (hX : Ext w w') => edgeMay_c L v w' (hC.ext hX))
  have hC' := hide hC
  obtain ⟨A, cap, rfl, hlc, hlm, -⟩ := ew_form hC
  have a3 : Ob (w.alloc (.cells #[.slice none 0 0] 25)) w.heap.size 25 [.slice none 0 0] := Ob.new w 25 [.slice none 0 0]
  have hX0 := hide ((Ext.refl w).alloc (.cells #[.slice none 0 0] 25))
  replace a3 := hide a3
  clear hC
  cases ha : mayE (eds L)
  · rw [ha] at h1
    go_enter Tryz.func106, Tryz.ntmps106
    go_wp2_with (go_at_call 45; (with_reducible refine seq_gw (h1.out _ hX0.out) ?_); intro g)
    go_returns
    exact ⟨_, rfl, show GrPost _ _ _ _ from ⟨_, [], a3.out.ext g.grown, by rw [ha]; rfl, ⟨Sl.nil _ _ _, by simp⟩, hX0.out.trans g.grown⟩⟩
  · rw [ha] at h1
    have hll : L.length ≤ 8192 := by have := mayE_len ha; simp [eds] at this; omega
    have hG := hide (show ∀ g ∈ grp (eds L), g.1.length ≤ 8 ∧ g.2.length ≤ 1024 from fun g hg => ⟨grp_r8 ha g hg, mayJ_len ((mayE_iff.1 ha).2.2 g hg)⟩)
    have hcp := hide (fun w' (hX : Ext w w') => copies_c L (.slice A L.length cap) w' (hC'.out.ext hX) hll hG.out)
    have ha' := hide ha
    clear ha
    go_enter Tryz.func106, Tryz.ntmps106
    go_wp2_with (first
      | (go_at_call 45; (with_reducible refine seq_gw (h1.out _ hX0.out) ?_); intro g)
      | (go_at_call 145; refine (hcp.out _ (hX0.out.trans g.grown)).mono ?_; rintro ee w2 ⟨v2, M, rfl, hM, ho2, hx2⟩; have o3 := (a3.out.ext g.grown).ext hx2; have hlt3 := o3.lt; have hc3 := o3.cell 0 rfl; have hfr3 := o3.free 0; obtain ⟨C2, c2, q2⟩ := own_form ho2.1; subst q2; haveI : In w.heap.size w2 := ⟨hlt3⟩))
    go_returns
    have hlg : w.heap.size < g.val.heap.size := by have := (a3.out.ext g.grown).lt; exact this
    have he : Ew w2 [w.heap.size] (.slice C2 M.length c2) M := ⟨Sl.own ho2.1 (fun x hx => by simp at hx; omega), fun p hp => Sl.less (ho2.2 p hp) (fun x hx => by simp at hx; subst hx; exact List.mem_append_right _ (List.mem_range.2 hlg))⟩
    refine ⟨_, rfl, show GrPost _ _ _ _ from ⟨_, M, o3.set 0 _, by rw [hM, ha'.out]; rfl, (he.fr ((Fr.refl [w.heap.size] w2).setCell ⟨w.heap.size, 0, none⟩ _ (.inl (by simp))) (fun _ h => h)).less (by simp), ((hX0.out.trans g.grown).trans hx2).setCell (p := ⟨w.heap.size, 0, none⟩) (by simp) _⟩⟩
end Go.Proofs.YtljkneajdndgjaaGreat
set_option linter.unusedVariables false
set_option linter.unusedSimpArgs false
namespace Go.Proofs.YtljkneajdndgjaaGreat
open Go.RowKit
attribute [local go_sem] GW.cell GW.frozen In.eq_true In.le_true In.ne In.ne' In.ne_add In.ne_add' In.lt_add Upto.le_true Upto.le_add Upto.lt_add Oper.semAt_some wide_depth wide_fn
theorem sl_lit (w : World) (E sz : Nat) (xs : List Value) (h : xs.length = sz) : Sl (w.alloc (.cells xs.toArray E)) [] sz (.slice (some ⟨w.heap.size, 0, none⟩) 1 1) 1 xs :=
  ⟨_, 1, rfl, Nat.le_refl _, by unfold maxLen; omega, by omega, .inr ⟨w.heap.size, 0, rfl, by simp, fun j u hu => by rw [Nat.zero_add]; exact (Ob.new w E xs).cell j hu⟩⟩
theorem ob_objS {w : World} {base e size n : Nat} {v : Value} {xs : List Value} (h : w.ownsRow base e size v n xs) : ∀ y ∈ ob v, ∃ T vs, Ob w y T vs := by
  intro y hy
  have hy' : v.ownBlock = some y := Option.mem_toList.1 hy
  rcases h.2 with ⟨rfl, _⟩ | ⟨g, cap, cur, rfl, hb, hg, _⟩
  · cases hy'
  · have : y = g := by simpa [Value.ownBlock] using hy'.symm
    subst this
    exact ⟨e, cur.toList, by unfold Ob; simpa using hg⟩
/-- A row and its function, as they lie. -/
abbrev Vk := Value × Value × Gp
def kc1 (p : Vk) : List Value := [p.1, p.2.1]
def kc (L : List Vk) : List Value := L.flatMap kc1
abbrev kgp (L : List Vk) : List Gp := L.map fun p => p.2.2
theorem kc_append (L M : List Vk) : kc (L ++ M) = kc L ++ kc M := by simp [kc]
theorem kc_cons (p : Vk) (L : List Vk) : kc (p :: L) = kc1 p ++ kc L := by simp [kc]
theorem kc_get : ∀ (L : List Vk) (i : Nat) (p : Vk), L[i]? = some p → ∀ j v, (kc1 p)[j]? = some v → (kc L)[i * 2 + j]? = some v
  | q :: r, 0, p, h, j, v, hv => by
    simp at h; subst h
    have hj : j < (kc1 q).length := (List.getElem?_eq_some_iff.1 hv).1
    rw [kc_cons, List.getElem?_append_left (by omega), show 0 * 2 + j = j by omega]; exact hv
  | q :: r, i + 1, p, h, j, v, hv => by
    have := kc_get r i p (by simpa using h) j v hv
    rw [kc_cons, show (i + 1) * 2 + j = (kc1 q).length + (i * 2 + j) by simp [kc1]; omega, List.getElem?_append_right (by omega), Nat.add_sub_cancel_left]
    exact this
theorem tKr : ElemT Tryz.prog 145 147 (.agg #[.slice none 0 0, .slice none 0 0]) 2 48 := ElemT.mk' Tryz.underlying145 (by kernel_rfl) rfl (by omega)
def OwnK (w : World) (B : Nat) (v : Value) (L : List Vk) : Prop := w.ownsRow B 147 2 v L.length (kc L) ∧ ∀ p ∈ L, OwnR w 0 p.1 p.2.2.1 ∧ OwnJ w 0 p.2.1 p.2.2.2
theorem OwnK.nil (w : World) (B : Nat) : OwnK w B (.slice none 0 0) [] := ⟨World.ownsRow_nil _ _ _ _, by simp⟩
theorem OwnK.ext {w w' : World} {B : Nat} {v : Value} {L : List Vk} (h : OwnK w B v L) (k : Ext w w') : OwnK w' B v L := ⟨own_ext h.1 k, fun p hp => ⟨own_ext (h.2 p hp).1 k, own_ext (h.2 p hp).2 k⟩⟩
theorem OwnK.stab (B : Nat) (B0 : Nat) (v : Value) (L : List Vk) : Stab B fun W => OwnK W B0 v L :=
  (Stab.own _ _ _ _ _ _).and (Stab.all fun p => Stab.all fun _ => (Stab.own _ _ _ _ _ _).and (Stab.own _ _ _ _ _ _))
/-- Rows and functions stay where blocks of neither kind are turned. -/
theorem ok_away {w w' : World} {S : List Nat} {r f : Value} {x : Gp} (h : OwnR w 0 r x.1 ∧ OwnJ w 0 f x.2) (hF : Fr S w w') (hS : ∀ b ∈ S, ∀ cs c, w.heap[b]? ≠ some (.cells cs 64 c) ∧ w.heap[b]? ≠ some (.cells cs 125 c)) : OwnR w' 0 r x.1 ∧ OwnJ w' 0 f x.2 :=
  ⟨own_away h.1 hF fun b hb hb2 => by obtain ⟨cs, c, hc⟩ := own_kind h.1 hb2; exact (hS b hb cs c).1 hc, own_away h.2 hF fun b hb hb2 => by obtain ⟨cs, c, hc⟩ := own_kind h.2 hb2; exact (hS b hb cs c).2 hc⟩
theorem no_kind {w : World} {b : Nat} {cs : Array Value} {T : TypeId} {c : Nat × Nat} (h : w.heap[b]? = some (.cells cs T c)) {E : TypeId} (hT : T ≠ E) : ∀ ds d, w.heap[b]? ≠ some (.cells ds E d) := by
  intro ds d hd
  rw [h] at hd
  injection hd with hd
  injection hd with _ hd
  exact hT hd
/-- Blocks that are none of the loop's. -/
def Fbk (bx : Nat) (b : Nat) (W : World) : Prop := ∃ mv, Ob W bx 145 [mv] ∧ (b ≠ bx ∧ (mv.ownBlock ≠ some b ∧ b < W.heap.size))
theorem Fbk.stab (B bx b : Nat) : Stab B (Fbk bx b) := Stab.ex fun mv => (Stab.ob _ _ _).and ((Stab.pure _).and ((Stab.pure _).and ⟨fun A C h e => Nat.lt_of_lt_of_le h e.size, fun A l o o' h _ _ _ => by simpa using h⟩))
abbrev Ik (w : World) (b3 B0 : Nat) (G : List Gp) (k : Nat) (W : World) : Prop :=
  (∃ mv, ∃ M : List Vk, Ob W b3 145 [mv] ∧ (OwnK W B0 mv M ∧ kgp M = G.take k)) ∧ (Ext w W ∧ B0 ≤ W.heap.size)
theorem Ik.stab (w : World) (b3 B0 : Nat) (G : List Gp) (k B : Nat) (hB : w.heap.size ≤ B) : Stab B (Ik w b3 B0 G k) :=
  (Stab.ex fun mv => Stab.ex fun M => (Stab.ob _ _ _).and ((OwnK.stab _ _ _ _).and (Stab.pure _))).and ((Stab.of_ext hB).and ⟨fun A C h e => Nat.le_trans h e.size, fun A l o o' h _ _ _ => by simpa using h⟩)
set_option maxHeartbeats 8000000 in
set_option maxRecDepth 100000 in
theorem rowsOf_c (L : List Ve) (hm : mayE (eds L) = true) (v : Value) (w : World) (hC : Ew w [] v L) : Calls Tryz.prog 72 #[v] w fun e w' => ∃ b mv M, e = .returned (.func (.func 118) #[] #[.pointer (some ⟨b, 0, none⟩)]) ∧ Ob w' b 145 [mv] ∧ OwnK w' w.heap.size mv M ∧ kgp M = grp (eds L) ∧ Ext w w' := by
  have hgr := hide (fun w' (hX : Ext w w') => groups_c L v w' (hC.ext hX))
  obtain ⟨A, cap, rfl, hlc, hlm, -⟩ := ew_form hC
  unfold maxLen at hlm
  clear hC
  have hGm : Hid (∀ g ∈ grp (eds L), g.1.length ≤ 8) := grp_r8 hm
  have hLl : L.length ≤ 4096 := by have := mayE_len hm; simpa [eds] using this
  have hgl : (grp (eds L)).length ≤ 4096 := by have := grp_len2 (eds L); rw [show (eds L).length = L.length from List.length_map _] at this; omega
  refine calls_marks Tryz.func72 rfl ?_
  simp only [Tryz.ntmps72, List.size_toArray, List.length_cons, List.length_nil, Nat.reduceAdd, Nat.reduceSub, Array.replicate_succ, Array.replicate_zero, List.push_toArray, List.append_toArray, List.nil_append, List.cons_append]
  go_wp2_with (go_at_call 106; refine (hgr.out _ ((Ext.refl w).alloc _)).mono ?_; rintro ee w1 ⟨b, rfl, v1, M, hb, hM, hMe, hX1⟩)
  rw [if_pos hm] at hM
  have p3 : Ob w1 w.heap.size 145 [.slice none 0 0] := (Ob.new w 145 [.slice none 0 0]).ext hX1
  have hXw : Ext w w1 := ((Ext.refl w).alloc _).trans hX1
  have hzw := hXw.size
  have hzw1 := p3.lt
  obtain ⟨b3, hb3⟩ : ∃ b3, b3 = w.heap.size := ⟨_, rfl⟩
  rw [← hb3] at p3 hzw1 ⊢
  have hb3w : w.heap.size ≤ b3 := by omega
  replace hb3 := hide hb3
  clear hgr hX1
  have hMx := hide (ew_box hMe p3)
  rw [← hM] at hGm hgl
  have hML : M.length ≤ 4096 := by have := congrArg List.length hM; simp only [eds, List.length_map] at this; omega
  replace hM := hide hM
  refine wp_rangeX2 (X := [b3]) (xs := grp (eds M)) rfl (enters_of Tryz.func146 (by kernel_rfl) rfl) (groups_seqx [b3] M v1 w1 w1 b hMx.out (by omega) (fun g hg => Nat.le_trans (hGm.out g hg) (by omega)) (Ext.refl _) hb) (Ext.refl _) (Nat.le_refl _) (fun x vs W h => h.size) (fun x vs => Hgg.stab x vs)
    (Fbk b3) (fun b => Fbk.stab _ b3 b) (Ik w b3 w1.heap.size (grp (eds M)))
    (fun k A o ⟨⟨mv, N, o1, o2, _⟩, _⟩ => ⟨mv, o1.alloc o, (by have := o1.lt; omega), (fun h => by have := (World.ownsRow.lt o2.1 _ h).2; omega), by simp⟩)
    (fun c k W => False)
    (fun k => Ik.stab w _ _ _ k _ hzw)
    (fun c k => Stab.pure _)
    ⟨⟨_, [], p3, OwnK.nil _ _, by simp⟩, hXw, Nat.le_refl _⟩
    (fun k x vs a' _ => ∃ r f, vs = #[r, f] ∧ a' = { tmps := #[.slice A L.length cap, undef, Value.nilFunc, .pointer (some ⟨b3, 0, none⟩), r, f, .slice A L.length cap, .func (.func 146) #[] #[.pointer (some ⟨b, 0, none⟩)], r, f, undef, undef, undef, undef, undef, undef, undef], defers := [] })
    (fun k x vs a' => Stab.pure _) ?assign ?body ?done ?stop
  case assign =>
    rintro LL k x vs W K _ ⟨r, f, rfl, -, -⟩ hK
    gi_wp2
    exact hK _ _ (Ext.refl _) ⟨r, f, rfl, rfl⟩
  case body =>
    rintro LL k x vs a' W hx ⟨⟨mv, N, o3, hNo, hNe⟩, hXk, h1W⟩ ⟨r', f', e', hr, hf⟩ ⟨r, f, rfl, rfl⟩
    obtain ⟨rfl, rfl⟩ : r = r' ∧ f = f' := by simpa using e'
    have hNl : N.length = ((grp (eds M)).take k).length := by rw [← hNe]; simp
    have hkl : k < (grp (eds M)).length := (List.getElem?_eq_some_iff.1 hx).1
    rw [List.length_take] at hNl
    have hNl2 : N.length ≤ 4096 := by omega
    clear hNl hkl
    have hnx := hide (show (grp (eds M)).take (k + 1) = (grp (eds M)).take k ++ [x] by rw [List.take_add_one, hx]; rfl)
    obtain ⟨RA, rcap, rfl⟩ := own_form hr
    obtain ⟨JA, jcap, rfl⟩ := own_form hf
    have hno := Ob.not_own o3 hNo.1 (by decide)
    have hobN := ob_ge hNo.1
    have k3 := o3.cell 0 rfl
    have l3 := o3.lt
    haveI : In b3 W := ⟨l3⟩
    have hNo' := hide hNo
    have o3' := hide o3
    have hXk' := hide hXk
    have hr' := hide hr
    have hf' := hide hf
    obtain ⟨MA, mcap, rfl⟩ := own_form hNo.1
    clear hNo o3 hXk hr hf hx
    replace hNe := hide hNe
    gi_wp2_with (refine wplIn_app tKr rfl (.tmp 10) (.tmp 14) rfl rfl (own_ext hNo'.out.1 ((Ext.refl W).alloc _)) rfl (src_sl Tryz.underlying145 (sl_lit W 147 2 [.slice RA x.1.length rcap, .slice JA x.2.length jcap] rfl) (by intro u hu; simp at hu; rcases hu with rfl | rfl <;> rfl) (by omega)) (by unfold maxLen; omega) (by omega) (by simp only [World.size_alloc]; omega) ?_; intro v8 w8 ho8 hg8 hob8; have o8 := (o3'.out.alloc (.cells #[.slice RA x.1.length rcap, .slice JA x.2.length jcap] 147)).grown hg8 (Ne.symm hno); have k8 := o8.cell 0 rfl; have fr8 := o8.free 0; have l8 := o8.lt; haveI : In b3 w8 := ⟨l8⟩; replace o8 := hide o8; obtain ⟨A8, c8, q8⟩ := own_form ho8; subst q8)
    have hF : Fr (b3 :: ob (.slice MA N.length mcap)) W (w8.setCell ⟨b3, 0, none⟩ (.slice A8 (N.length + 1) c8)) := ((((Fr.refl _ W).alloc _).grown hg8 (fun j hj => .inl (List.mem_cons_of_mem _ (Option.mem_toList.2 hj)))).setCell ⟨b3, 0, none⟩ _ (.inl (by simp)))
    have hS : ∀ y ∈ b3 :: ob (.slice MA N.length mcap), y = b3 ∨ w1.heap.size ≤ y := fun y hy => (List.mem_cons.1 hy).imp id (fun h => (hobN y h).1)
    have hkd : ∀ y ∈ b3 :: ob (.slice MA N.length mcap), ∀ cs c, W.heap[y]? ≠ some (.cells cs 64 c) ∧ W.heap[y]? ≠ some (.cells cs 125 c) := fun y hy cs c => by
      rcases List.mem_cons.1 hy with rfl | hy
      · exact ⟨no_kind o3'.out (by decide) cs c, no_kind o3'.out (by decide) cs c⟩
      · obtain ⟨ds, d, hd⟩ := own_kind hNo'.out.1 hy
        exact ⟨no_kind hd (by decide) cs c, no_kind hd (by decide) cs c⟩
    have o9 := o8.out.set 0 (.slice A8 (N.length + 1) c8)
    have hown : OwnK (w8.setCell ⟨b3, 0, none⟩ (.slice A8 (N.length + 1) c8)) w1.heap.size (.slice A8 (N.length + 1) c8) (N ++ [(.slice RA x.1.length rcap, .slice JA x.2.length jcap, x)]) := by
      refine ⟨?_, fun p hp => ?_⟩
      · have h1 := own_fr ho8 ((Fr.refl [b3] w8).setCell ⟨b3, 0, none⟩ (.slice A8 (N.length + 1) c8) (.inl (by simp))) (by intro y hy; rw [List.mem_singleton.1 hy]; exact hzw1)
        rw [List.length_append, kc_append]
        simpa [kc, kc1] using h1
      · rcases List.mem_append.1 hp with hp | hp
        · exact ok_away (hNo'.out.2 p hp) hF hkd
        · obtain rfl := List.mem_singleton.1 hp
          exact ok_away ⟨hr'.out, hf'.out⟩ hF hkd
    refine ⟨keeps_fr hF (fun y hy => ?_), belX_fr hF h1W (fun y hy => ?_), ⟨⟨_, _, o9, hown, ?_⟩, ext_fr hXk'.out hF (fun y hy => ?_), Nat.le_trans h1W hF.size⟩, ?_⟩
    · rcases List.mem_cons.1 hy with rfl | hy
      · exact ⟨_, _, o3'.out⟩
      · exact ob_objS hNo'.out.1 y hy
    · rcases hS y hy with h | h
      · exact .inr (by simp [h])
      · exact .inl h
    · rw [hnx.out, ← hNe.out]
      simp
    · rcases hS y hy with h | h <;> omega
    · rintro y T us ⟨mv0, om, hy1, hy2, hy3⟩ oy
      obtain rfl : mv0 = .slice MA N.length mcap := by
        have e1 := om
        unfold Ob at e1
        have e2 := o3'.out
        unfold Ob at e2
        rw [e2] at e1
        simpa using e1.symm
      have hyS : y ∉ b3 :: ob (.slice MA N.length mcap) := by
        intro h
        rcases List.mem_cons.1 h with h | h
        · exact hy1 h
        · exact hy2 (Option.mem_toList.1 h)
      refine ⟨⟨_, o9, hy1, fun h => ?_, by have := hF.size; omega⟩, oy.fr hF hyS⟩
      rcases hob8 with h8 | h8
      · exact hy2 (h8.symm.trans h)
      · rw [h] at h8
        simp only [World.size_alloc, Option.some.injEq] at h8
        omega
  case done =>
    rintro D W hD ⟨⟨mv, N, o3, hNo, hNe⟩, hXk, h1W⟩ hK
    rw [List.take_length] at hNe
    have l3 := o3.lt
    haveI : In b3 W := ⟨l3⟩
    have o3' := hide o3
    have hNo' := hide hNo
    have hXk' := hide hXk
    have hK' := hide hK
    replace hNe := hide hNe
    clear o3 hNo hXk hK
    go_wp2_with fail
    have o4 := ob_put (o' := .deferred none) hK'.out rfl o3'.out
    refine ret_mark hK'.out (v := .func (.func 118) #[] #[.pointer (some ⟨b3, 0, none⟩)]) ?_ ⟨b3, mv, N, rfl, o4, ?_, by rw [hNe.out, hM.out], put_ext hXk'.out (by omega) _⟩
    · simp [results, Tryz.f72, go_sem]
    · have := (OwnK.stab (B := 0) w1.heap.size mv N).put _ D _ (.deferred none) hNo'.out (Nat.zero_le _) hK'.out rfl
      exact ⟨own_base this.1 hzw, this.2⟩
  case stop =>
    rintro D c k W hD hk h
    exact h.elim
end Go.Proofs.YtljkneajdndgjaaGreat
set_option linter.unusedVariables false
set_option linter.unusedSimpArgs false
namespace Go.Proofs.YtljkneajdndgjaaGreat
open Go.RowKit
attribute [local go_sem] GW.cell GW.frozen In.eq_true In.le_true In.ne In.ne' In.ne_add In.ne_add' In.lt_add Upto.le_true Upto.le_add Upto.lt_add
theorem tCp : ElemT Tryz.prog 50 56 (.agg #[.slice none 0 0, .int .i64 0]) 2 32 := ElemT.mk' Tryz.underlying50 (by kernel_rfl) rfl (by omega)
/-- One more copy. -/
theorem OwnC.app {w w' : World} {B : Nat} {v v' : Value} {C : List Vc} {c : Vc} {u : Value} {cs : List Value} {cap : Nat} (h : OwnC w B v C) (hF : Fr (ob v) w w') (ho : w'.ownsRow B 56 2 v' (C.length + 1) (cc C ++ cc1 c)) (hc : OwnR w 0 c.1 c.2.1) : OwnC w' B v' (C ++ [c]) := by
  refine ⟨by rw [List.length_append, cc_append]; simpa [cc] using ho, fun p hp => ?_⟩
  rcases List.mem_append.1 hp with hp | hp
  · exact own_away (h.2 p hp) hF (own_far h.1 (h.2 p hp) (by decide))
  · obtain rfl := List.mem_singleton.1 hp
    exact own_away hc hF (own_far h.1 hc (by decide))
set_option maxHeartbeats 8000000 in
set_option maxRecDepth 100000 in
theorem rowsAt_c (M : List Vk) (mv : Value) (b B0 : Nat) (t : Int) (w : World) (hb : Ob w b 145 [mv]) (hK : OwnK w B0 mv M) (hM : M.length ≤ 4096) : Calls Tryz.prog 118 #[.int .i64 t, .pointer (some ⟨b, 0, none⟩)] w fun e w' => ∃ v' C, e = .returned v' ∧ cps C = alG (kgp M) t ∧ OwnC w' w.heap.size v' C ∧ Ext w w' := by
  obtain ⟨MA, mcap, rfl⟩ := own_form hK.1
  have c0 := hb.cell 0 rfl
  have hlt := hb.lt
  have hK' := hide hK
  haveI : In b w := ⟨hlt⟩
  clear hb hK
  go_enter Tryz.func118, Tryz.ntmps118
  go_wp2_with fail
  go_loopg [4, 10] M.length (fun gh u i wr => ∃ (k : Nat) (C : List Vc), i = .int .i64 k ∧ k + gh = M.length ∧ Hid (OwnC wr w.heap.size u C) ∧ Hid (cps C = alG ((kgp M).take k) t) ∧ C.length ≤ k ∧ Hid (Ext w wr))
  case atStart => exact ⟨0, [], by go_num, by omega, OwnC.nil _ _, rfl, by simp, Ext.refl w⟩
  case round =>
    obtain ⟨k, C, rfl, hk, hO, hcp, hCl, hX⟩ := hrel
    obtain ⟨CA, ccap, rfl⟩ := hO.out.form
    by_cases hlt2 : k < M.length
    · obtain ⟨⟨r, f, x⟩, hd⟩ : ∃ p, M[k]? = some p := ⟨_, List.getElem?_eq_getElem hlt2⟩
      have hKr := hK'.out.ext hX.out
      obtain ⟨g, mc, eg, -, hgl⟩ := own_block2 hKr.1 (by omega)
      simp only [Value.slice.injEq] at eg
      obtain ⟨rfl, -, rfl⟩ := eg
      have q0 := World.ownsRow.cellAt hKr.1 (k * 2) (by omega)
      have q1 := World.ownsRow.cellAt hKr.1 (k * 2 + 1) (by omega)
      have q2 := kc_get M k _ hd 0 r rfl
      rw [Nat.add_zero] at q2
      rw [q2] at q0
      rw [kc_get M k _ hd 1 f rfl] at q1
      obtain ⟨hr, hf⟩ := hKr.2 _ (List.mem_of_getElem? hd)
      simp only at hr hf
      obtain ⟨RA, rcap, rfl⟩ := own_form hr
      obtain ⟨JA, jcap, rfl⟩ := own_form hf
      have hgk : (kgp M)[k]? = some x := by rw [List.getElem?_map, hd]; rfl
      have hnx := hide (alG_next hgk t)
      obtain ⟨n, hn⟩ : ∃ n, n = atV x.2 t := ⟨_, rfl⟩
      have hat := hide (fun w' (hX' : Ext wr w') => stepAt_c x.2 t (.slice JA x.2.length jcap) w' (Sl.ext (own_jw (S := []) hf (by simp)) hX'))
      rw [← hn] at hat hnx
      haveI : In g wr := ⟨hgl⟩
      have hr' := hide hr
      have hobC := hide (ob_ge hO.out.1)
      have hXa := hide (((Ext.refl wr).alloc (.cells #[.slice RA x.1.length rcap, .slice JA x.2.length jcap] 147)))
      have hA1 : Ob (wr.alloc (.cells #[.slice RA x.1.length rcap, .slice JA x.2.length jcap] 147)) wr.heap.size 147 [.slice RA x.1.length rcap, .slice JA x.2.length jcap] := Ob.new wr _ [_, _]
      clear hd hKr q2 hr hf hgk
      replace hn := hide hn
      by_cases hpos : 0 < n
      · rw [if_pos hpos] at hnx
        go_wp2_with (first | (go_at_call 119; (with_reducible refine seq_gw (hat.out _ hXa.out) ?_); intro g1; have hXg := hide (hXa.out.trans g1.grown); have hO1 := hide (hO.out.ext hXg.out); have hr1 := hide (own_ext hr'.out hXg.out); have p0 := (hA1.ext g1.grown).cell 0 rfl; have p1 := (hA1.ext g1.grown).lt; (haveI : In wr.heap.size g1.val := ⟨p1⟩)) | (at_builtin; refine wpl_app tCp rfl (.tmp 20) (.tmp 25) rfl rfl (own_ext hO1.out.1 ((Ext.refl g1.val).alloc _)) rfl (src_sl Tryz.underlying50 (sl_lit g1.val 56 2 [.slice RA x.1.length rcap, .int .i64 n] rfl) (by intro u hu; simp at hu; rcases hu with rfl | rfl <;> rfl) (by omega)) (by unfold maxLen; omega) (by omega) (by simp only [World.size_alloc]; have := hXg.out.size; have := hX.out.size; omega) ?_; intro v8 w8 ho8 hg8 hob8; have ho9 := hide ho8; have hg9 := hide hg8; obtain ⟨A8, c8, q8⟩ := own_form ho8; subst q8; clear ho8 hg8 hob8))
        have hF9 : Fr (ob (.slice CA C.length ccap)) g1.val w8 := ((Fr.refl _ _).alloc _).grown hg9.out (fun j hj => .inl (Option.mem_toList.2 hj))
        go_roundg (M.length - (k + 1))
        case measure => omega
        case rel =>
          refine ⟨k + 1, C ++ [(.slice RA x.1.length rcap, x.1, n)], by go_num, by omega, OwnC.app (cs := []) (cap := 0) (u := undef) hO1.out hF9 (by simpa [cc1] using ho9.out) hr1.out, ?_, by simp; omega, ext_fr (hX.out.trans hXg.out) hF9 (fun y hy => (hobC.out y hy).1)⟩
          show _ = _
          rw [hnx.out, ← hcp.out]
          simp
      · rw [if_neg hpos] at hnx
        go_wp2_with (go_at_call 119; (with_reducible refine seq_gw (hat.out _ hXa.out) ?_); intro g1; have hXg := hide (hXa.out.trans g1.grown))
        go_roundg (M.length - (k + 1))
        case measure => omega
        case rel => exact ⟨k + 1, C, by go_num, by omega, hO.out.ext hXg.out, (by show _ = _; rw [hnx.out, List.append_nil]; exact hcp.out), by omega, hX.out.trans hXg.out⟩
    · have hkM : k = M.length := by omega
      have hfin := hide (show cps C = alG (kgp M) t by rw [hcp.out, List.take_of_length_le (by simp; omega)])
      clear hcp
      go_wp2_with fail
      go_returns
      exact ⟨_, C, rfl, hfin.out, hO.out, hX.out⟩
end Go.Proofs.YtljkneajdndgjaaGreat
