/-
  A helper of ours: no claim of its own. Layer 32 (anti): a row is looked at and, if it is a partner, added up, by the code's function literal; the function of all partners by its steps.
-/
import Derived.Test.YtljkneajdndgjabGreatEdgEg
import Derived.Test.YtljkneajdndgjabGreatEdgK
import Derived.Test.YtljkneajdndgjabGreatEdgGr
import Derived.Test.YtljkneajdndgjabGreatAntA
import Derived.Test.YtljkneajdndgjabGreatEdgGx
set_option linter.unusedVariables false
set_option linter.unusedSimpArgs false
namespace Go.Proofs.YtljkneajdndgjabGreat
open Go.RowKit
attribute [local go_sem] GW.cell GW.frozen In.eq_true In.le_true In.ne In.ne' In.ne_add In.ne_add' In.lt_add Upto.le_true Upto.le_add Upto.lt_add Oper.semAt_some wide_depth wide_fn
def cpOp (f : List Jp) : Int × List Jp := (0, f)
set_option maxHeartbeats 8000000 in
set_option maxRecDepth 100000 in
theorem copies_c (L : List Ve) (v : Value) (w : World) (hC : Ew w [] v L) (hL : L.length ≤ 8192) (hG : ∀ g ∈ grp (eds L), g.1.length ≤ 8 ∧ g.2.length ≤ 1024) : Calls Tryz.prog 103 #[v] w fun e w' => ∃ v' M, e = .returned v' ∧ eds M = eds L ∧ OwnEr w' w.heap.size v' M ∧ Ext w w' := by
  obtain ⟨A, cap, rfl, hlc, hlm, -⟩ := ew_form hC
  unfold maxLen at hlm
  refine calls_marks Tryz.func103 rfl ?_
  simp only [Tryz.ntmps103, List.size_toArray, List.length_cons, List.length_nil, Nat.reduceAdd, Nat.reduceSub, Array.replicate_succ, Array.replicate_zero, List.push_toArray, List.append_toArray, List.nil_append, List.cons_append]
  have a3 : Ob (w.alloc (.cells #[.slice none 0 0] 22)) w.heap.size 22 [.slice none 0 0] := Ob.new w 22 [.slice none 0 0]
  have hX0 : Ext w (w.alloc (.cells #[.slice none 0 0] 22)) := (Ext.refl w).alloc _
  have hGl := grp_len (eds L)
  rw [List.length_map] at hGl
  replace hG := hide hG
  replace hC := hide hC
  go_wp2_with (go_at_call 60; refine (functions_c _ _ _ _).mono ?_; rintro ee w1 ⟨b, rfl, hb, hle, hX1⟩)
  have hX2 := hide (hX0.trans hX1)
  have p3 := a3.ext hX1
  have hz2 := hX2.out.size
  obtain ⟨b3, hb3⟩ : ∃ b3, w.heap.size = b3 := ⟨_, rfl⟩
  rw [hb3] at p3
  clear a3 hle hX0 hX1
  refine wp_range (xs := grp (eds L)) rfl (enters_of Tryz.func108 (by kernel_rfl) rfl) (functions_seq L _ w w1 b hC.out (by omega) hX2.out hb) (Ext.refl _) hX2.out.size (fun x vs W h => h.size) (fun x vs => Hg.stab x vs)
    (fun k W => (∃ mv, ∃ M : List Ve, (Ob W b3 22 [mv] ∧ (OwnE W (b3 + 1) mv M ∧ ∀ p, ∀ (_ : p ∈ M), Rw W (ob mv ++ List.range (b3 + 1)) p.1 p.2.1)) ∧ (eds M = evL cpOp ((grp (eds L)).take k) ∧ M.length ≤ 1024 * k)) ∧ Ext w W)
    (fun c k W => False ∧ Ext w W)
    (fun k => (Stab.ex fun mv => Stab.ex fun M => ((Stab.ob _ _ _).and ((Stab.own _ _ _ _ _ _).and (Stab.all fun p => Stab.all fun _ => Stab.sl _ _ _ _ _))).and (Stab.pure _)).and (Stab.of_ext hz2))
    (fun c k => (Stab.pure _).and (Stab.of_ext hz2))
    ⟨⟨_, [], ⟨p3, World.ownsRow_nil _ _ _ _, by simp⟩, by simp [evL, eds], by simp⟩, hX2.out⟩
    (fun k x vs a' _ => ∃ r f, vs = #[r, f] ∧ a' = { tmps := #[.slice A L.length cap, undef, .slice none 0 0, .pointer (some ⟨b3, 0, none⟩), r, f, .slice A L.length cap, .func (.func 108) #[] #[.pointer (some ⟨b, 0, none⟩)], r, f, undef, undef, undef, undef, undef, undef], defers := [] })
    (fun k x vs a' => Stab.pure _) ?assign ?body ?done ?stop
  case assign =>
    rintro LL k x vs W K _ ⟨r, f, rfl, -, -⟩ hK
    gi_wp2
    exact hK _ _ (Ext.refl _) ⟨r, f, rfl, by rw [← hb3]⟩
  case body =>
    rintro LL k x vs a' W hx ⟨⟨mv, M, ⟨o3, hMo, hMr⟩, hMe, hMl⟩, hXw⟩ ⟨r', f', e', hr, hf⟩ ⟨r, f, rfl, rfl⟩
    obtain ⟨rfl, rfl⟩ : r = r' ∧ f = f' := by simpa using e'
    obtain ⟨q, J⟩ := x
    have hgm : (q, J) ∈ grp (eds L) := List.mem_of_getElem? hx
    have hkl := (List.getElem?_eq_some_iff.1 hx).1
    obtain ⟨h8, hJl⟩ := hG.out (q, J) hgm
    simp only at h8 hJl
    have hb3W := o3.lt
    have hzW := hXw.size
    have hfk := hide hf
    obtain ⟨JA, jcap, rfl, -, -, -⟩ := jw_form hf
    obtain ⟨RA, rcap, rfl⟩ := rw_val hr
    have hnx := hide (show evL cpOp ((grp (eds L)).take (k + 1)) = evL cpOp ((grp (eds L)).take k) ++ J.map fun j => (q, j) by rw [List.take_add_one, hx, Option.toList_some, evL_snoc]; rfl)
    replace hMe := hide hMe
    clear hx hgm hf
    obtain ⟨MA, mcap, rfl⟩ := own_form hMo
    have hM0 : OwnEr W (b3 + 1) (.slice MA M.length mcap) M := ⟨hMo, fun p hp => hMr p hp⟩
    replace hM0 := hide hM0
    clear hMo hMr
    have q3 := hide (o3.cell 0 rfl)
    have hed := hide (fun w' (hX' : Ext W w') => edgesOf_c q J (.slice RA q.length rcap) (.slice JA J.length jcap) w' (Sl.ext hr hX') h8 (Sl.ext hfk.out hX') (by omega))
    try gi_wp2_with fail
    refine wpIn_region_list_tail 4 [(.is (.slice MA M.length mcap)), (.is (.slice RA q.length rcap)), (.is (.slice JA J.length jcap)), ownF W.heap.size q J] (by kernel_rfl) (by kernel_rfl) (by kernel_rfl) (by kernel_rfl) (by kernel_rfl) (by kernel_rfl) (by kernel_rfl) (by kernel_rfl) ?_ ?_
    · refine ⟨?_, ?_, ?_, ?_, trivial⟩
      · intro b w' h hE
        have f3 : b.tmps.getD 3 undef = .pointer (some ⟨b3, 0, none⟩) := hE 3 (of_decide_eq_true (by kernel_rfl))
        have c0 := cell_later h.ext q3.out
        exact good_load (wanted_none rfl) rfl f3 (by simp [go_sem, c0]) rfl
      · intro b w' h hE
        have f4 : b.tmps.getD 4 undef = .slice RA q.length rcap := hE 4 (of_decide_eq_true (by kernel_rfl))
        exact good_move (wanted_none rfl) rfl f4
      · intro b w' h hE
        have f5 : b.tmps.getD 5 undef = .slice JA J.length jcap := hE 5 (of_decide_eq_true (by kernel_rfl))
        exact good_move (wanted_none rfl) rfl f5
      · intro b w' h hE
        have f11 : b.tmps.getD 11 undef = .slice RA q.length rcap := h.dep 1 _ 11 (by kernel_rfl) rfl rfl
        have g11 : b.tmps[11]?.getD undef = .slice RA q.length rcap := by rw [← Array.getD_eq_getD_getElem?]; exact f11
        have f12 : b.tmps.getD 12 undef = .slice JA J.length jcap := h.dep 2 _ 12 (by kernel_rfl) rfl rfl
        have g12 : b.tmps[12]?.getD undef = .slice JA J.length jcap := by rw [← Array.getD_eq_getD_getElem?]; exact f12
        refine good_call (wanted_none rfl) rfl (enters Tryz.func77 (by kernel_rfl) rfl) ?_
        rw [show (#[.tmp 11, .tmp 12] : Array Operand).map b.eval = #[.slice RA q.length rcap, .slice JA J.length jcap] by simp [Act.eval, g11, g12]]
        exact (hed.out w' h.ext).mono fun e w1 ⟨v, M2, he, hM2, ho, hx⟩ => ⟨v, he, ⟨M2, hM2, ho.lower h.ext.size⟩, hx⟩
    · intro b w2 hX2 hd hz he' hf
      have e10 : b.tmps.getD 10 undef = .slice MA M.length mcap := hf 0 _ 10 (by omega) rfl rfl
      have e11 : b.tmps.getD 11 undef = .slice RA q.length rcap := hf 1 _ 11 (by omega) rfl rfl
      have e12 : b.tmps.getD 12 undef = .slice JA J.length jcap := hf 2 _ 12 (by omega) rfl rfl
      have f13 : ∃ M2, eds M2 = J.map (fun j => (q, j)) ∧ OwnEr w2 W.heap.size (b.tmps.getD 13 undef) M2 := hf 3 _ 13 (by omega) rfl rfl
      have e := frame_puts hd hz he'
      obtain ⟨X, hXx⟩ : ∃ X : Nat → Value, ∀ d, b.tmps.getD d undef = X d := ⟨_, fun _ => rfl⟩
      rw [hXx] at e10 e11 e12 f13
      obtain ⟨M2, hM2, f13⟩ := f13
      obtain ⟨A13, c13, q13⟩ := own_form f13.1
      rw [show dstsOf _ = [10, 11, 12, 13] from rfl] at e
      simp only [List.foldl_cons, List.foldl_nil, hXx, Act.put, List.setIfInBounds_toArray, List.set_cons_succ, List.set_cons_zero] at e
      rw [e10, e11, e12, q13] at e
      rw [q13] at f13
      replace f13 := hide f13
      clear hf he' hz hd hXx e10 e11 e12 q13
      subst e
      have hzw := hX2.size
      simp only [List.drop_succ_cons, List.drop_zero]
      have hl2 : M2.length = J.length := by have := congrArg List.length hM2; simpa [eds] using this
      have o3b := hide (o3.ext hX2)
      have hMb := hide (hM0.out.ext hX2)
      have hno := Ob.not_own o3b.out hMb.out.1 (by decide)
      replace hM2 := hide hM2
      replace hl2 := hide hl2
      go_wp2_with (at_builtin; (refine wpl_app tEdg rfl (.tmp 10) (.tmp 13) rfl rfl hMb.out.1 rfl (src_sl Tryz.underlying22 f13.out.ew.1 (Ew.one f13.out.ew) (by omega)) (by unfold maxLen; have := hl2.out; omega) (by have := hl2.out; omega) (by omega) ?_; intro v8 w8 ho8 hg8 hob8; obtain ⟨A8, c8, rfl⟩ := own_form ho8; have o3c := o3b.out.grown hg8 (Ne.symm hno); have k3 := o3c.cell 0 rfl; have f3 := o3c.free 0; have hlt3 := o3c.lt; haveI : In b3 w8 := ⟨hlt3⟩))
      have hM8 : OwnEr w8 (b3 + 1) (.slice A8 (M.length + M2.length) c8) (M ++ M2) := hMb.out.app (own_appE ho8) hg8 hob8 (fun p hp => ⟨_, f13.out.2 p hp, fun q hq => List.mem_append_right _ (List.mem_range.2 (by
        rcases List.mem_append.1 hq with hq | hq
        · have := (ob_ge hM0.out.1 q hq).2; omega
        · have := List.mem_range.1 hq; omega))⟩)
      have hFr : Fr (ob (Value.slice MA M.length mcap) ++ [b3]) W (w8.setCell ⟨b3, 0, none⟩ (.slice A8 (M.length + M2.length) c8)) := ((Fr.of_ext hX2).grown hg8 (fun k hk => .inl (List.mem_append_left _ (by unfold ob; rw [show (Value.slice MA M.length mcap).ownBlock = some k from hk]; exact List.mem_singleton.2 rfl)))).setCell ⟨b3, 0, none⟩ _ (.inl (by simp))
      have hge : ∀ y ∈ ob (Value.slice MA M.length mcap) ++ [b3], w.heap.size ≤ y := fun y hy => by
        rcases List.mem_append.1 hy with hy | hy
        · have := (ob_ge hM0.out.1 y hy).1; omega
        · obtain rfl := List.mem_singleton.1 hy; omega
      have hcl : ∀ y ∈ ob (Value.slice MA M.length mcap) ++ [b3], ∃ T vs, Ob W y T vs := fun y hy => by
        rcases List.mem_append.1 hy with hy | hy
        · exact ob_obj hM0.out.1 y hy
        · obtain rfl := List.mem_singleton.1 hy; exact ⟨_, _, o3⟩
      have hXe : Ext w (w8.setCell ⟨b3, 0, none⟩ (.slice A8 (M.length + M2.length) c8)) := (ext_grown (hXw.trans hX2) hg8 (fun k hk => by have := (hM0.out.1.lt k hk).1; omega)).setCell (p := ⟨b3, 0, none⟩) (by show w.heap.size ≤ b3; omega) _
      have hF3 : Fr [b3] w8 (w8.setCell ⟨b3, 0, none⟩ (.slice A8 (M.length + M2.length) c8)) := (Fr.refl [b3] w8).setCell ⟨b3, 0, none⟩ _ (.inl (by simp))
      exact show KeepsFrom _ W _ ∧ Below w.heap.size W _ ∧ _ from ⟨keeps_fr hFr hcl, below_fr hFr hzW hge,
        ⟨_, M ++ M2, ⟨o3c.set 0 _, own_fr hM8.1 hF3 (by simp), fun p hp => Sl.set (hM8.2 p hp) _ _ (List.mem_append_right _ (List.mem_range.2 (by show b3 < b3 + 1; omega)))⟩,
          by show eds (M ++ M2) = _; rw [hnx.out, ← hMe.out, ← hM2.out]; simp [eds], by have := hl2.out; rw [List.length_append]; omega⟩, hXe⟩
  case done =>
    rintro D W hD ⟨⟨mv, M, ⟨o3, hMo, hMr⟩, hMe, hMl⟩, hXw⟩ hK
    rw [List.take_of_length_le (Nat.le_refl _), show cpOp = fun f => (0, f) from rfl, grp_back] at hMe
    have q3 := o3.cell 0 rfl
    have l3 := o3.lt
    obtain ⟨MA, mcap, rfl⟩ := own_form hMo
    have hM0 : OwnEr W (b3 + 1) (.slice MA M.length mcap) M := ⟨hMo, fun p hp => hMr p hp⟩
    replace hM0 := hide hM0
    replace hMe := hide hMe
    clear hMo hMr
    subst hb3
    go_wp2
    have hM2 : OwnEr (W.putObj D (.deferred none)) (w.heap.size + 1) (.slice MA M.length mcap) M :=
      ⟨(Stab.own (B := 0) _ _ _ _ _ _).put _ D _ _ hM0.out.1 (Nat.zero_le _) hK rfl, fun p hp => (Stab.sl (B := 0) _ _ _ _ _).put _ D _ _ (hM0.out.2 p hp) (Nat.zero_le _) hK rfl⟩
    refine ret_mark hK (v := .slice MA M.length mcap) ?_ ⟨_, M, rfl, hMe.out, hM2.lower (by omega), put_ext hXw (by omega) _⟩
    simp [results, Tryz.f103, go_sem]
  case stop =>
    rintro D c k W hD hk ⟨h, -⟩ hK
    exact h.elim
end Go.Proofs.YtljkneajdndgjabGreat
set_option linter.unusedVariables false
set_option linter.unusedSimpArgs false
namespace Go.Proofs.YtljkneajdndgjabGreat
open Go.RowKit
attribute [local go_sem] GW.cell GW.frozen In.eq_true In.le_true In.ne In.ne' In.ne_add In.ne_add' In.lt_add Upto.le_true Upto.le_add Upto.lt_add Oper.semAt_some wide_depth wide_fn
/-- What is kept: a copy of the edges, if they are in form. -/
def GrPost (w : World) (L : List Ve) (b : Nat) (w' : World) : Prop := ∃ v' M, Ob w' b 22 [v'] ∧ eds M = (if mayE (eds L) then eds L else []) ∧ Ew w' [] v' M ∧ Ext w w'
set_option maxHeartbeats 8000000 in
set_option maxRecDepth 100000 in
theorem groups_c (L : List Ve) (v : Value) (w : World) (hC : Ew w [] v L) : Calls Tryz.prog 56 #[v] w fun e w' => ∃ b, e = .returned (.func (.func 104) #[] #[.pointer (some ⟨b, 0, none⟩)]) ∧ GrPost w L b w' := by
  have h1 := hide (fun w' (hX : Ext w w') => edgeMay_c L v w' (hC.ext hX))
  have hC' := hide hC
  obtain ⟨A, cap, rfl, hlc, hlm, -⟩ := ew_form hC
  have a3 : Ob (w.alloc (.cells #[.slice none 0 0] 22)) w.heap.size 22 [.slice none 0 0] := Ob.new w 22 [.slice none 0 0]
  have hX0 := hide ((Ext.refl w).alloc (.cells #[.slice none 0 0] 22))
  replace a3 := hide a3
  clear hC
  cases ha : mayE (eds L)
  · rw [ha] at h1
    go_enter Tryz.func56, Tryz.ntmps56
    go_wp2_with (go_at_call 31; (with_reducible refine seq_gw (h1.out _ hX0.out) ?_); intro g)
    go_returns
    exact ⟨_, rfl, show GrPost _ _ _ _ from ⟨_, [], a3.out.ext g.grown, by rw [ha]; rfl, ⟨Sl.nil _ _ _, by simp⟩, hX0.out.trans g.grown⟩⟩
  · rw [ha] at h1
    have hll : L.length ≤ 8192 := by have := mayE_len ha; simp [eds] at this; omega
    have hG := hide (show ∀ g ∈ grp (eds L), g.1.length ≤ 8 ∧ g.2.length ≤ 1024 from fun g hg => ⟨grp_r8 ha g hg, mayJ_len ((mayE_iff.1 ha).2.2 g hg)⟩)
    have hcp := hide (fun w' (hX : Ext w w') => copies_c L (.slice A L.length cap) w' (hC'.out.ext hX) hll hG.out)
    have ha' := hide ha
    clear ha
    go_enter Tryz.func56, Tryz.ntmps56
    go_wp2_with (first
      | (go_at_call 31; (with_reducible refine seq_gw (h1.out _ hX0.out) ?_); intro g)
      | (go_at_call 103; refine (hcp.out _ (hX0.out.trans g.grown)).mono ?_; rintro ee w2 ⟨v2, M, rfl, hM, ho2, hx2⟩; have o3 := (a3.out.ext g.grown).ext hx2; have hlt3 := o3.lt; have hc3 := o3.cell 0 rfl; have hfr3 := o3.free 0; obtain ⟨C2, c2, q2⟩ := own_form ho2.1; subst q2; haveI : In w.heap.size w2 := ⟨hlt3⟩))
    go_returns
    have hlg : w.heap.size < g.val.heap.size := by have := (a3.out.ext g.grown).lt; exact this
    have he : Ew w2 [w.heap.size] (.slice C2 M.length c2) M := ⟨Sl.own ho2.1 (fun x hx => by simp at hx; omega), fun p hp => Sl.less (ho2.2 p hp) (fun x hx => by simp at hx; subst hx; exact List.mem_append_right _ (List.mem_range.2 hlg))⟩
    refine ⟨_, rfl, show GrPost _ _ _ _ from ⟨_, M, o3.set 0 _, by rw [hM, ha'.out]; rfl, (he.fr ((Fr.refl [w.heap.size] w2).setCell ⟨w.heap.size, 0, none⟩ _ (.inl (by simp))) (fun _ h => h)).less (by simp), ((hX0.out.trans g.grown).trans hx2).setCell (p := ⟨w.heap.size, 0, none⟩) (by simp) _⟩⟩
end Go.Proofs.YtljkneajdndgjabGreat
set_option linter.unusedVariables false
set_option linter.unusedSimpArgs false
namespace Go.Proofs.YtljkneajdndgjabGreat
open Go.RowKit
attribute [local go_sem] GW.cell GW.frozen In.eq_true In.le_true In.ne In.ne' In.ne_add In.ne_add' In.lt_add Upto.le_true Upto.le_add Upto.lt_add
/-- What is wrong with a row, and the sum behind it. -/
def pE (r : List Vl) (f : List Jp) (x : List Vl) (S : List Jp) (o : List Vl) (g : List Jp) : Int := if (isX r f o g x).1 then twE addO S g else (isX r f o g x).2
def pS (r : List Vl) (f : List Jp) (x : List Vl) (S : List Jp) (o : List Vl) (g : List Jp) : List Jp := if (isX r f o g x).1 then twR addO S g else S
/-- The sum over the rows. -/
def pGo (r : List Vl) (f : List Jp) (x : List Vl) : List Gp → List Jp → Int × List Jp
  | [], S => (0, S)
  | (o, g) :: G, S => if pE r f x S o g = 0 then pGo r f x G (pS r f x S o g) else (pE r f x S o g, [])
set_option maxHeartbeats 4000000 in
set_option maxRecDepth 100000 in
theorem examine_c (r o x : List Vl) (f g S : List Jp) (hri : ∀ v ∈ r, inW v) (hoi : ∀ v ∈ o, inW v) (hi : ∀ v ∈ x, inW v) (vr vf vo vg vx vs : Value) (w : World) (br bf bx bs B0 : Nat) (hr : Rw w [] vr r) (hf : Jw w [] vf f) (ho : Rw w [] vo o) (hg : Jw w [] vg g) (hx : Rw w [] vx x) (hs : OwnJ w B0 vs S)
    (o1 : Ob w br 33 [vr]) (o2 : Ob w bf 39 [vf]) (o3 : Ob w bx 24 [vx]) (o4 : Ob w bs 39 [vs]) (hB : B0 ≤ w.heap.size) (hbs : bs < B0) :
    Calls Tryz.prog 100 #[vo, vg, .pointer (some ⟨br, 0, none⟩), .pointer (some ⟨bf, 0, none⟩), .pointer (some ⟨bx, 0, none⟩), .pointer (some ⟨bs, 0, none⟩)] w fun e w' => ∃ vs', e = .returned (.int .i64 (pE r f x S o g)) ∧ Ob w' bs 39 [vs'] ∧ OwnJ w' B0 vs' (pS r f x S o g) ∧ Fr [bs] w w' := by
  have hp := hide (isPartner_c r o x f g hri hoi hi vr vf vo vg vx w hr hf ho hg hx)
  have ha := hide (fun w' (hX : Ext w w') => stepAdd_c S g vs vg w' (Sl.ext (own_jw hs (S := []) (by simp)) hX) (Sl.ext hg hX))
  have q1 := o1.cell 0 rfl
  have q2 := o2.cell 0 rfl
  have q3 := o3.cell 0 rfl
  have o4' := hide o4
  have hs' := hide hs
  clear hr hf ho hg hx hri hoi hi o1 o2 o3 o4 hs
  unfold pE pS
  obtain ⟨⟨B, G⟩, hH⟩ : ∃ Y, Y = isX r f o g x := ⟨_, rfl⟩
  rw [← hH] at hp ⊢
  obtain ⟨E, hE⟩ : ∃ E, E = twE addO S g := ⟨_, rfl⟩
  obtain ⟨R, hR⟩ : ∃ R, R = twR addO S g := ⟨_, rfl⟩
  rw [← hE, ← hR] at ha
  rw [← hE, ← hR]
  clear hE hR hH
  dsimp only at hp ⊢
  cases B with
  | false =>
    go_enter Tryz.func100, Tryz.ntmps100
    go_wp2_with (go_at_call 101; (with_reducible refine seq_gw hp.out ?_); intro g1)
    go_returns
    exact ⟨rfl, _, o4'.out.ext g1.grown, own_ext hs'.out g1.grown, Fr.of_ext g1.grown⟩
  | true =>
    go_enter Tryz.func100, Tryz.ntmps100
    go_wp2_with (first | (go_at_call 101; (with_reducible refine seq_gw hp.out ?_); intro g1; have k4 := (o4'.out.ext g1.grown).cell 0 rfl) | (go_at_call 102; refine (ha.out _ g1.grown).mono ?_; rintro ee w2 ⟨v2, rfl, ho2, hx2⟩; have hXX := hide (g1.grown.trans hx2); have y4 := o4'.out.ext hXX.out; have k5 := y4.cell 0 rfl; have f4 := y4.free 0; have l4 := y4.lt; haveI : In bs w2 := ⟨l4⟩; replace y4 := hide y4; obtain ⟨A2, c2, rfl⟩ := own_form ho2; replace ho2 := hide ho2; clear hx2))
    go_returns
    have hF : Fr [bs] w2 (w2.setCell ⟨bs, 0, none⟩ (.slice A2 R.length c2)) := (Fr.refl [bs] w2).setCell ⟨bs, 0, none⟩ _ (.inl (by simp))
    have hz := g1.grown.size
    exact ⟨rfl, _, y4.out.set 0 _, own_fr (own_base ho2.out (by omega)) hF (by simpa using hbs), (Fr.of_ext hXX.out).trans hF⟩
end Go.Proofs.YtljkneajdndgjabGreat
