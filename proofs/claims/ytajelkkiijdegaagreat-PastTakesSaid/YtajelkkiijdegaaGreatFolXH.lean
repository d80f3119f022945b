/-
  A helper of ours: no claim of its own. Layer 13 (fold): what is done with each message's result, by the code (Changes).
-/
import Derived.Test.YtajelkkiijdegaaGreatBagC
import Derived.Test.YtajelkkiijdegaaGreatFolO
import Derived.Test.YtajelkkiijdegaaGreatRowE
set_option linter.unusedVariables false
set_option linter.unusedSimpArgs false
namespace Go.Proofs.YtajelkkiijdegaaGreat
open Go.RowKit
attribute [local go_sem] GW.cell GW.frozen In.eq_true In.le_true In.ne In.ne' In.ne_add In.ne_add' In.lt_add Upto.le_true Upto.le_add Upto.lt_add
end Go.Proofs.YtajelkkiijdegaaGreat
set_option linter.unusedVariables false
set_option linter.unusedSimpArgs false
namespace Go.Proofs.YtajelkkiijdegaaGreat
open Go.RowKit
attribute [local go_sem] GW.cell GW.frozen In.eq_true In.le_true In.ne In.ne' In.ne_add In.ne_add' In.lt_add Upto.le_true Upto.le_add Upto.lt_add
end Go.Proofs.YtajelkkiijdegaaGreat
set_option linter.unusedVariables false
set_option linter.unusedSimpArgs false
namespace Go.Proofs.YtajelkkiijdegaaGreat
open Go.RowKit
attribute [local go_sem] GW.cell GW.frozen In.eq_true In.le_true In.ne In.ne' In.ne_add In.ne_add' In.lt_add Upto.le_true Upto.le_add Upto.lt_add
theorem tErn : ElemT Tryz.prog 160 27 (.int .i64 0) 1 8 := ElemT.mk' Tryz.underlying160 (by kernel_rfl) rfl (by omega)
theorem tChs : ElemT Tryz.prog 53 39 zChV 6 64 := ElemT.mk' Tryz.underlying53 (by kernel_rfl) rfl (by omega)
def ns (l : List Int) : List Value := l.map (Value.int .i64)
/-- The box of the answers. -/
def BxA (w : World) (base B : Nat) (l : List Int) : Prop := ∃ sv, Ob w B 160 [sv] ∧ w.ownsRow base 27 1 sv l.length (ns l) ∧ base ≤ B
theorem BxA.ext {w w' : World} {base B : Nat} {l : List Int} (h : BxA w base B l) (k : Ext w w') : BxA w' base B l := by obtain ⟨sv, h1, h2, h3⟩ := h; exact ⟨sv, h1.ext k, own_ext h2 k, h3⟩
theorem BxA.stay {w w' : World} {base B s mb : Nat} {l : List Int} (h : BxA w base B l) (hst : StOk w s mb) (hF : Fr [s, mb] w w') : BxA w' base B l := by
  obtain ⟨sv, h1, h2, h3⟩ := h
  have hne := hst.ne_ob h1 (by decide)
  exact ⟨sv, h1.fr hF (by simp only [List.mem_cons, List.not_mem_nil, or_false]; omega), own_stay h2 hF (hst.nt (by decide)), h3⟩
set_option maxHeartbeats 4000000 in
set_option maxRecDepth 100000 in
theorem ansPut_c (wA : World) (B s mb : Nat) (l : List Int) (k i f t : Int) (u v : Value) (VA UA : Option Addr) (vl vc ul uc : Nat) (hv : v = .slice VA vl vc) (hu : u = .slice UA ul uc) (c : Ch) (e : Int) (hl : l.length ≤ 100000) (w : World) (h : BxA w wA.heap.size B l) (hX : Ext wA w) (hst : StOk w s mb) :
    Calls Tryz.prog 144 #[mg k i f t v, chV u c, .int .i64 e, .pointer (some ⟨B, 0, none⟩)] w fun r w' => r = .returned (.tuple #[]) ∧ BxA w' wA.heap.size B (l ++ [e]) ∧ Ext wA w' ∧ w'.heap[s]? = w.heap[s]? ∧ w'.heap[mb]? = w.heap[mb]? := by
  obtain ⟨sv, hO, ho, hB⟩ := h
  subst hv; subst hu
  obtain ⟨A, cap, rfl⟩ := own_form ho
  have hlt := hO.lt
  have c0 := hO.cell 0 rfl
  haveI : In B w := ⟨hlt⟩
  have hbase := hX.size
  have hne1 := hst.ne_ob hO (by decide)
  have hne2 := hide (hst.ne_own ho (by decide))
  have hnB := hO.not_own ho (by decide)
  have hge := hide (ob_ge ho)
  replace hO := hide hO
  replace ho := hide ho
  have hsrc : Src Tryz.prog 1 160 (.slice (some ⟨w.heap.size + 1 + 1, 0, none⟩) 1 1) 1 [.int .i64 e] (((w.alloc (mO k i f t (.slice VA vl vc))).alloc (.cells (chO (.slice UA ul uc) c).toArray 39)).alloc (.cells #[.int .i64 e] 27)) := by
    have := src_one (P := Tryz.prog) Tryz.underlying160 ((w.alloc (mO k i f t (.slice VA vl vc))).alloc (.cells (chO (.slice UA ul uc) c).toArray 39)) (.int .i64 e) 27 rfl
    rw [World.size_alloc, World.size_alloc] at this
    exact this
  replace hsrc := hide hsrc
  go_enter Tryz.func144, Tryz.ntmps144
  go_wp2_with (at_builtin; (refine wpl_app tErn rfl (.tmp 7) (.tmp 9) rfl rfl (own_ext ho.out (Gn.ext (w := w))) rfl hsrc.out (by unfold maxLen; omega) (by omega) (by first | omega | (simp; omega)) ?_; intro v1 w1 ho1 hg1 hob1; replace hg1 : World.grownBy _ w1 (Value.slice A l.length cap).ownBlock := hg1; have hXb := (Gn.ext (w := w) : Ext w ((((w.alloc (mO k i f t (.slice VA vl vc))).alloc (.cells (chO (.slice UA ul uc) c).toArray 39)).alloc (.cells #[.int .i64 e] 27)))); have O1 := (hO.out.ext hXb).grown hg1 (fun e => hnB e.symm); have k0 := O1.cell 0 rfl; have z0 := O1.free 0; have hlt1 := O1.lt; haveI : In B w1 := ⟨hlt1⟩; obtain ⟨A1, cp1, rfl⟩ := own_form ho1))
  go_end0
  have hF := ((Fr.of_ext (S := B :: ob (.slice A l.length cap)) hXb).then (fr_grown hg1) (fun x hx => .inl (by simp; exact .inr (by simpa [ob] using hx)))).setCell ⟨B, 0, none⟩ (.slice A1 (l.length + 1) cp1) (.inl (by simp))
  have hP := put_done hF hX (by
    intro b hb
    rcases List.mem_cons.1 hb with rfl | hb
    · exact ⟨hB, hne1⟩
    · exact ⟨(hge.out b hb).1, hne2.out b hb⟩) hst
  refine ⟨rfl, ⟨.slice A1 (l.length + 1) cp1, O1.set 0 _, ?_, hB⟩, hP⟩
  have h1 := own_stay ho1 ((Fr.refl [B] w1).setCell ⟨B, 0, none⟩ (.slice A1 (l.length + 1) cp1) (.inl (by simp))) (by intro b hb; rw [List.mem_singleton.1 hb]; exact O1.nt (by decide))
  rw [List.length_append, List.length_singleton]
  unfold ns at h1 ⊢
  rw [List.map_append]
  exact h1
end Go.Proofs.YtajelkkiijdegaaGreat
set_option linter.unusedVariables false
set_option linter.unusedSimpArgs false
namespace Go.Proofs.YtajelkkiijdegaaGreat
open Go.RowKit
attribute [local go_sem] GW.cell GW.frozen In.eq_true In.le_true In.ne In.ne' In.ne_add In.ne_add' In.lt_add Upto.le_true Upto.le_add Upto.lt_add
abbrev OwnCh := OwnX 39 6 chO (fun c : Ch => c.2.1)
/-- The box of the changes. -/
def BxH (w : World) (base B : Nat) (L : List (Value × Ch)) : Prop := ∃ sv, Ob w B 53 [sv] ∧ OwnCh w base sv L ∧ base ≤ B
theorem BxH.ext {w w' : World} {base B : Nat} {L : List (Value × Ch)} (h : BxH w base B L) (k : Ext w w') : BxH w' base B L := by obtain ⟨sv, h1, h2, h3⟩ := h; exact ⟨sv, h1.ext k, h2.ext k, h3⟩
theorem BxH.stay {w w' : World} {base B s mb : Nat} {L : List (Value × Ch)} (h : BxH w base B L) (hst : StOk w s mb) (hF : Fr [s, mb] w w') : BxH w' base B L := by
  obtain ⟨sv, h1, h2, h3⟩ := h
  have hne := hst.ne_ob h1 (by decide)
  exact ⟨sv, h1.fr hF (by simp only [List.mem_cons, List.not_mem_nil, or_false]; omega), h2.stay hF (fun b hb => ⟨hst.nt (by decide) b hb, hst.nt (by decide) b hb⟩), h3⟩
set_option maxHeartbeats 1000000 in
theorem isChange_c (UA : Option Addr) (ul uc : Nat) (c : Ch) (w : World) : Calls Tryz.prog 93 #[chV (.slice UA ul uc) c] w fun e w' => e = .returned (.bool (decide (0 < c.1))) ∧ Ext w w' := by
  obtain ⟨cs, cr, ⟨o1, o2⟩, n1, n2⟩ := c
  by_cases h : 0 < cs
  · have hI : (0 : Int) < cs := by omega
    have d1 : decide (0 < cs) = true := decide_eq_true h
    go_enter Tryz.func93, Tryz.ntmps93
    go_wp2_with fail
    go_returns
    exact ⟨by simp [h], (Ext.refl w).alloc _⟩
  · have hI : ¬ (0 : Int) < cs := by omega
    obtain rfl : cs = 0 := by omega
    go_enter Tryz.func93, Tryz.ntmps93
    go_wp2_with fail
    go_returns
    exact ⟨by simp, (Ext.refl w).alloc _⟩
theorem chO_new (u : Value) (c : Ch) (w : World) : Sl (w.alloc (.cells (chO u c).toArray 39)) [] 6 (.slice (some ⟨w.heap.size, 0, none⟩) 1 1) 1 (chO u c) :=
  Sl.own (World.ownsRow_lit (base := w.heap.size) (e := 39) (size := 6) w (chO u c).toArray 1 (Nat.le_refl _) (by decide) rfl) (by simp)
theorem chO_one {UA : Option Addr} {ul uc : Nat} {c : Ch} : ∀ x ∈ chO (.slice UA ul uc) c, x.oneCell' = true := by
  intro x hx; simp [chO] at hx; rcases hx with rfl | rfl | rfl | rfl | rfl | rfl <;> rfl
set_option maxHeartbeats 8000000 in
set_option maxRecDepth 100000 in
theorem chgPut_c (wA : World) (B s mb : Nat) (L : List (Value × Ch)) (k i f t : Int) (u v : Value) (VA : Option Addr) (vl vc : Nat) (hv : v = .slice VA vl vc) (c : Ch) (hu : Rw wA [] u c.2.1) (hr8 : c.2.1.length ≤ 8) (e : Int) (hl : L.length ≤ 100000) (w : World) (h : BxH w wA.heap.size B L) (hX : Ext wA w) (hst : StOk w s mb) :
    Calls Tryz.prog 92 #[mg k i f t v, chV u c, .int .i64 e, .pointer (some ⟨B, 0, none⟩)] w fun r w' => r = .returned (.tuple #[]) ∧ (∃ L', BxH w' wA.heap.size B L' ∧ L'.map Prod.snd = L.map Prod.snd ++ (if decide (0 < c.1) then [c] else [])) ∧ Ext wA w' ∧ w'.heap[s]? = w.heap[s]? ∧ w'.heap[mb]? = w.heap[mb]? := by
  have hcp := hide (fun w' (hx : Ext wA w') => rowCopy_c c.2.1 u w' (Sl.ext hu hx) (by omega))
  obtain ⟨UA, uc, eu⟩ := rw_val hu
  subst hv; subst eu
  have hic := hide (fun w => isChange_c UA c.2.1.length uc c w)
  have hh := h
  obtain ⟨sv, hO, ho, hB⟩ := h
  obtain ⟨A, cap, rfl⟩ := ho.form
  have hlt := hO.lt
  have q0 := hO.cell 0 rfl
  haveI : In B w := ⟨hlt⟩
  have hbase := hX.size
  have hne1 := hst.ne_ob hO (by decide)
  have hnB := hO.not_own ho.1 (by decide)
  replace hO := hide hO
  replace ho := hide ho
  cases hc : decide (0 < c.1)
  · rw [hc] at hic
    replace hh := hide hh
    go_enter Tryz.func92, Tryz.ntmps92
    go_wp2_with (go_at_call 93; first | ((with_reducible refine seq_gw' (hic.out _) ?_); intro g1) | ((with_reducible refine seq_gw (hic.out _) ?_); intro g1))
    go_end0
    have hXb := (Gn.ext (w := w) : Ext w g1.val)
    exact ⟨rfl, ⟨L, hh.out.ext hXb, by simp⟩, put_done (Fr.of_ext (S := []) hXb) hX (by simp) hst⟩
  · rw [hc] at hic
    obtain ⟨cs, cr, ⟨o1, o2⟩, n1, n2⟩ := c
    simp only at hr8 hcp hic
    clear hh hu
    have hOc0 := hide (show Ob ((w.alloc (mO k i f t (.slice VA vl vc))).alloc (.cells (chO (.slice UA cr.length uc) (cs, cr, (o1, o2), n1, n2)).toArray 39)) (w.heap.size + 1) 39 (chO (.slice UA cr.length uc) (cs, cr, (o1, o2), n1, n2)) by
      have := Ob.new (w.alloc (mO k i f t (.slice VA vl vc))) 39 (chO (.slice UA cr.length uc) (cs, cr, (o1, o2), n1, n2))
      rw [World.size_alloc] at this
      exact this)
    go_enter Tryz.func92, Tryz.ntmps92
    go_wp2_with (first | (go_at_call 93; first | ((with_reducible refine seq_gw' (hic.out _) ?_); intro g1) | ((with_reducible refine seq_gw (hic.out _) ?_); intro g1)) | (go_at_call 53; (refine (hcp.out g1.val (hX.trans (Gn.ext (w := w)))).mono ?_; rintro ee w2 ⟨v2, rfl, ho2, hx2⟩; obtain ⟨A2, c2, e2⟩ := own_form ho2; subst e2; have hX2 := hide ((Gn.ext (w := w) : Ext w g1.val).trans hx2); have hOc := hOc0.out.ext (g1.grown.trans hx2); have y0 := hOc.cell 0 rfl; have y1 := hOc.cell 1 rfl; have y2 := hOc.cell 2 rfl; have y3 := hOc.cell 3 rfl; have y4 := hOc.cell 4 rfl; have y5 := hOc.cell 5 rfl; have e1 := hOc.free 1; have yl := hOc.lt; haveI : In (w.heap.size + 1) w2 := ⟨yl⟩; have hOB := hO.out.ext hX2.out; have b0 := hOB.cell 0 rfl; have bl := hOB.lt; haveI : In B w2 := ⟨bl⟩; have hR2 : Hid (RwO w2 (.slice A2 cr.length c2) cr) := own_base ho2 (Nat.zero_le _); replace hOc := hide hOc; have hsrc := hide (show Sl ((w2.setCell ⟨w.heap.size + 1, 1, none⟩ (.slice A2 cr.length c2)).alloc (.cells (chO (.slice A2 cr.length c2) (cs, cr, (o1, o2), n1, n2)).toArray 39)) [] 6 (.slice (some ⟨w2.heap.size, 0, none⟩) 1 1) 1 (chO (.slice A2 cr.length c2) (cs, cr, (o1, o2), n1, n2)) by (have := chO_new (.slice A2 cr.length c2) (cs, cr, (o1, o2), n1, n2) (w2.setCell ⟨w.heap.size + 1, 1, none⟩ (.slice A2 cr.length c2)); rw [World.size_setCell] at this; exact this)); have hXW := hide ((hX2.out.setCell (p := ⟨w.heap.size + 1, 1, none⟩) (Nat.le_succ _) (.slice A2 cr.length c2)).alloc (.cells (chO (.slice A2 cr.length c2) (cs, cr, (o1, o2), n1, n2)).toArray 39)); have hRW := hide (((RwO.stay hR2.out ((Fr.refl [w.heap.size + 1] w2).setCell ⟨w.heap.size + 1, 1, none⟩ (.slice A2 cr.length c2) (.inl (by simp))) (by intro b hb; rw [List.mem_singleton.1 hb]; exact hOc.out.nt (by decide)))).ext ((Ext.refl _).alloc (.cells (chO (.slice A2 cr.length c2) (cs, cr, (o1, o2), n1, n2)).toArray 39))); clear ho2 hx2 hOB)) | (at_builtin; (refine wpl_app tChs rfl (.tmp 13) (.tmp 15) rfl rfl (ho.out.ext hXW.out).1 rfl (src_sl Tryz.underlying53 hsrc.out chO_one (by omega)) (by unfold maxLen; omega) (by omega) (by simp only [World.size_alloc, World.size_setCell]; omega) ?_; intro v1 w1 ho1 hg1 hob1; replace hg1 : World.grownBy _ w1 (Value.slice A L.length cap).ownBlock := hg1; have O1 := (hO.out.ext hXW.out).grown hg1 (fun e => hnB e.symm); have k0 := O1.cell 0 rfl; have z0 := O1.free 0; have hlt1 := O1.lt; haveI : In B w1 := ⟨hlt1⟩; have hN1 := hide ((ho.out.ext hXW.out).app (M := [((.slice A2 cr.length c2), (cs, cr, (o1, o2), n1, n2))]) (by decide) (by simpa using ho1) hg1 (by intro p hp; rw [List.mem_singleton.1 hp]; exact hRW.out)); obtain ⟨A1, cp1, rfl⟩ := own_form ho1)))
    go_end0
    have hge := ob_ge ho.out.1
    have hne2 := hst.ne_own ho.out.1 (by decide)
    have hF := ((Fr.of_ext (S := B :: ob (.slice A L.length cap)) hXW.out).then (fr_grown hg1) (fun x hx => .inl (by simp; exact .inr (by simpa [ob] using hx)))).setCell ⟨B, 0, none⟩ (.slice A1 (L.length + 1) cp1) (.inl (by simp))
    have hP := put_done hF hX (by
      intro b hb
      rcases List.mem_cons.1 hb with rfl | hb
      · exact ⟨hB, hne1⟩
      · exact ⟨(hge b hb).1, hne2 b hb⟩) hst
    refine ⟨rfl, ⟨L ++ [((.slice A2 cr.length c2), (cs, cr, (o1, o2), n1, n2))], ⟨.slice A1 (L.length + 1) cp1, O1.set 0 _, ?_, hB⟩, by simp⟩, hP⟩
    exact hN1.out.stay ((Fr.refl [B] w1).setCell ⟨B, 0, none⟩ (.slice A1 (L.length + 1) cp1) (.inl (by simp))) (by intro b hb; rw [List.mem_singleton.1 hb]; exact ⟨O1.nt (by decide), O1.nt (by decide)⟩)
end Go.Proofs.YtajelkkiijdegaaGreat
