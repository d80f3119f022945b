/-
  A helper of ours: no claim of its own. Layer 13 (fold): answers, clock, changes and events of messages, by the code.
-/
import Derived.Test.YtkfdkjjocdbolaaFolO
import Derived.Test.YtkfdkjjocdbolaaRowE
import Derived.Test.YtkfdkjjocdbolaaFolM
import Derived.Test.YtkfdkjjocdbolaaReg3
import Derived.Test.YtkfdkjjocdbolaaFolPA
import Derived.Test.YtkfdkjjocdbolaaFolPC
import Derived.Test.YtkfdkjjocdbolaaFolPH
import Derived.Test.YtkfdkjjocdbolaaFolPE
set_option linter.unusedVariables false
set_option linter.unusedSimpArgs false
namespace Go.Proofs.Ytkfdkjjocdbolaa
open Go.RowKit
attribute [local go_sem] GW.cell GW.frozen In.eq_true In.le_true In.ne In.ne' In.ne_add In.ne_add' In.lt_add Upto.le_true Upto.le_add Upto.lt_add
theorem tErn : ElemT Try.prog 37 34 (.int .i64 0) 1 8 := ElemT.mk' Try.underlying37 (by kernel_rfl) rfl (by omega)
theorem tChs : ElemT Try.prog 72 42 zChV 6 64 := ElemT.mk' Try.underlying72 (by kernel_rfl) rfl (by omega)
def ns (l : List Int) : List Value := l.map (Value.int .i64)
theorem ns_one (l : List Int) : ∀ x ∈ ns l, x.oneCell' = true := by
  intro x hx; simp only [ns, List.mem_map] at hx; obtain ⟨_, _, rfl⟩ := hx; rfl
/-- The box of the answers. -/
def BxA (w : World) (base B : Nat) (l : List Int) : Prop := ∃ sv, Ob w B 37 [sv] ∧ w.ownsRow base 34 1 sv l.length (ns l) ∧ base ≤ B
theorem BxA.ext {w w' : World} {base B : Nat} {l : List Int} (h : BxA w base B l) (k : Ext w w') : BxA w' base B l := by obtain ⟨sv, h1, h2, h3⟩ := h; exact ⟨sv, h1.ext k, own_ext h2 k, h3⟩
theorem BxA.stay {w w' : World} {base B s mb : Nat} {l : List Int} (h : BxA w base B l) (hst : StOk w s mb) (hF : Fr [s, mb] w w') : BxA w' base B l := by
  obtain ⟨sv, h1, h2, h3⟩ := h
  have hne := hst.ne_ob h1 (by decide)
  exact ⟨sv, h1.fr hF (by simp only [List.mem_cons, List.not_mem_nil, or_false]; omega), own_stay h2 hF (hst.nt (by decide)), h3⟩
set_option maxHeartbeats 4000000 in
set_option maxRecDepth 100000 in
theorem ansPut_c (wA : World) (B s mb : Nat) (l : List Int) (k i f t : Int) (u v : Value) (VA UA : Option Addr) (vl vc ul uc : Nat) (hv : v = .slice VA vl vc) (hu : u = .slice UA ul uc) (c : Ch) (e : Int) (hl : l.length ≤ 100000) (w : World) (h : BxA w wA.heap.size B l) (hX : Ext wA w) (hst : StOk w s mb) :
    Calls Try.prog 19 #[mg k i f t v, chV u c, .int .i64 e, .pointer (some ⟨B, 0, none⟩)] w fun r w' => r = .returned (.tuple #[]) ∧ BxA w' wA.heap.size B (l ++ [e]) ∧ Ext wA w' ∧ w'.heap[s]? = w.heap[s]? ∧ w'.heap[mb]? = w.heap[mb]? := by
  obtain ⟨sv, hO, ho, hB⟩ := h
  subst hv; subst hu
  obtain ⟨A, cap, rfl⟩ := own_form ho
  have hlt := hO.lt
  have c0 := hO.cell 0 rfl
  haveI : In B w := ⟨hlt⟩
  have hbase := hX.size
  have hne1 := hst.ne_ob hO (by decide)
  have hne2 := hide (hst.ne_own ho (by decide))
  have hnB := hO.not_own ho (by decide)
  have hge := hide (ob_ge ho)
  replace hO := hide hO
  replace ho := hide ho
  have hsrc : Src Try.prog 1 37 (.slice (some ⟨w.heap.size + 1 + 1, 0, none⟩) 1 1) 1 [.int .i64 e] (((w.alloc (mO k i f t (.slice VA vl vc))).alloc (.cells (chO (.slice UA ul uc) c).toArray 42)).alloc (.cells #[.int .i64 e] 34)) := by
    have := src_one (P := Try.prog) Try.underlying37 ((w.alloc (mO k i f t (.slice VA vl vc))).alloc (.cells (chO (.slice UA ul uc) c).toArray 42)) (.int .i64 e) 34 rfl
    rw [World.size_alloc, World.size_alloc] at this
    exact this
  replace hsrc := hide hsrc
  go_enter Try.func19, Try.ntmps19
  go_wp2_with (at_builtin; (refine wpl_app tErn rfl (.tmp 7) (.tmp 9) rfl rfl (own_ext ho.out (Gn.ext (w := w))) rfl hsrc.out (by unfold maxLen; omega) (by omega) (by first | omega | (simp; omega)) ?_; intro v1 w1 ho1 hg1 hob1; replace hg1 : World.grownBy _ w1 (Value.slice A l.length cap).ownBlock := hg1; have hXb := (Gn.ext (w := w) : Ext w ((((w.alloc (mO k i f t (.slice VA vl vc))).alloc (.cells (chO (.slice UA ul uc) c).toArray 42)).alloc (.cells #[.int .i64 e] 34)))); have O1 := (hO.out.ext hXb).grown hg1 (fun e => hnB e.symm); have k0 := O1.cell 0 rfl; have z0 := O1.free 0; have hlt1 := O1.lt; haveI : In B w1 := ⟨hlt1⟩; obtain ⟨A1, cp1, rfl⟩ := own_form ho1))
  go_end0
  have hF := ((Fr.of_ext (S := B :: ob (.slice A l.length cap)) hXb).then (fr_grown hg1) (fun x hx => .inl (by simp; exact .inr (by simpa [ob] using hx)))).setCell ⟨B, 0, none⟩ (.slice A1 (l.length + 1) cp1) (.inl (by simp))
  have hP := put_done hF hX (by
    intro b hb
    rcases List.mem_cons.1 hb with rfl | hb
    · exact ⟨hB, hne1⟩
    · exact ⟨(hge.out b hb).1, hne2.out b hb⟩) hst
  refine ⟨rfl, ⟨.slice A1 (l.length + 1) cp1, O1.set 0 _, ?_, hB⟩, hP⟩
  have h1 := own_stay ho1 ((Fr.refl [B] w1).setCell ⟨B, 0, none⟩ (.slice A1 (l.length + 1) cp1) (.inl (by simp))) (by intro b hb; rw [List.mem_singleton.1 hb]; exact O1.nt (by decide))
  rw [List.length_append, List.length_singleton]
  unfold ns at h1 ⊢
  rw [List.map_append]
  exact h1
end Go.Proofs.Ytkfdkjjocdbolaa
set_option linter.unusedVariables false
set_option linter.unusedSimpArgs false
namespace Go.Proofs.Ytkfdkjjocdbolaa
open Go.RowKit
attribute [local go_sem] GW.cell GW.frozen In.eq_true In.le_true In.ne In.ne' In.ne_add In.ne_add' In.lt_add Upto.le_true Upto.le_add Upto.lt_add
/-- The box of the clock. -/
def BxC (w : World) (base B : Nat) (c : Int) : Prop := Ob w B 3 [.int .i64 c] ∧ base ≤ B
theorem BxC.ext {w w' : World} {base B : Nat} {c : Int} (h : BxC w base B c) (k : Ext w w') : BxC w' base B c := ⟨h.1.ext k, h.2⟩
theorem BxC.stay {w w' : World} {base B s mb : Nat} {c : Int} (h : BxC w base B c) (hst : StOk w s mb) (hF : Fr [s, mb] w w') : BxC w' base B c := by
  have hne := hst.ne_ob h.1 (by decide)
  exact ⟨h.1.fr hF (by simp only [List.mem_cons, List.not_mem_nil, or_false]; omega), h.2⟩
set_option maxHeartbeats 4000000 in
set_option maxRecDepth 100000 in
theorem clkPut_c (wA : World) (B s mb : Nat) (c0 : Int) (k i f t : Int) (u v : Value) (VA UA : Option Addr) (vl vc ul uc : Nat) (hv : v = .slice VA vl vc) (hu : u = .slice UA ul uc) (c : Ch) (e : Int) (w : World) (h : BxC w wA.heap.size B c0) (hX : Ext wA w) (hst : StOk w s mb) :
    Calls Try.prog 32 #[mg k i f t v, chV u c, .int .i64 e, .pointer (some ⟨B, 0, none⟩)] w fun r w' => r = .returned (.tuple #[]) ∧ BxC w' wA.heap.size B (if e = 0 ∧ k = 3 then f else c0) ∧ Ext wA w' ∧ w'.heap[s]? = w.heap[s]? ∧ w'.heap[mb]? = w.heap[mb]? := by
  obtain ⟨hO, hB⟩ := h
  subst hv; subst hu
  have hlt := hO.lt
  have q0 := hO.cell 0 rfl
  have z0 := hO.free 0
  haveI : In B w := ⟨hlt⟩
  have hne1 := hst.ne_ob hO (by decide)
  replace hO := hide hO
  by_cases he : e = 0
  · subst he
    by_cases hk : k = 3
    · subst hk
      rw [if_pos ⟨rfl, rfl⟩]
      go_enter Try.func32, Try.ntmps32
      go_wp2_with fail
      go_end0
      have hF : Fr [B] w (((w.setCell ⟨B, 0, none⟩ (.int .i64 f)).alloc (mO 3 i f t (.slice VA vl vc))).alloc (.cells (chO (.slice UA ul uc) c).toArray 42)) := (((Fr.refl [B] w).setCell ⟨B, 0, none⟩ (.int .i64 f) (.inl (by simp))).alloc _).alloc _
      exact ⟨rfl, ⟨((hO.out.set 0 _).alloc _).alloc _, hB⟩, put_done hF hX (by intro b hb; rw [List.mem_singleton.1 hb]; exact ⟨hB, hne1⟩) hst⟩
    · have k3 : (k == 3) = false := by simp [hk]
      rw [if_neg (fun h => hk h.2)]
      go_enter Try.func32, Try.ntmps32
      go_wp2_with fail
      go_end0
      have hXb := (Gn.ext (w := w) : Ext w ((w.alloc (mO k i f t (.slice VA vl vc))).alloc (.cells (chO (.slice UA ul uc) c).toArray 42)))
      exact ⟨rfl, ⟨hO.out.ext hXb, hB⟩, put_done (Fr.of_ext (S := []) hXb) hX (by simp) hst⟩
  · have e0 : (e == 0) = false := by simp [he]
    rw [if_neg (fun h => he h.1)]
    go_enter Try.func32, Try.ntmps32
    go_wp2_with fail
    go_end0
    have hXb := (Gn.ext (w := w) : Ext w ((w.alloc (mO k i f t (.slice VA vl vc))).alloc (.cells (chO (.slice UA ul uc) c).toArray 42)))
    exact ⟨rfl, ⟨hO.out.ext hXb, hB⟩, put_done (Fr.of_ext (S := []) hXb) hX (by simp) hst⟩
end Go.Proofs.Ytkfdkjjocdbolaa
set_option linter.unusedVariables false
set_option linter.unusedSimpArgs false
namespace Go.Proofs.Ytkfdkjjocdbolaa
open Go.RowKit
attribute [local go_sem] GW.cell GW.frozen In.eq_true In.le_true In.ne In.ne' In.ne_add In.ne_add' In.lt_add Upto.le_true Upto.le_add Upto.lt_add
abbrev OwnCh := OwnX 42 6 chO (fun c : Ch => c.2.1)
/-- The box of the changes. -/
def BxH (w : World) (base B : Nat) (L : List (Value × Ch)) : Prop := ∃ sv, Ob w B 72 [sv] ∧ OwnCh w base sv L ∧ base ≤ B
theorem BxH.ext {w w' : World} {base B : Nat} {L : List (Value × Ch)} (h : BxH w base B L) (k : Ext w w') : BxH w' base B L := by obtain ⟨sv, h1, h2, h3⟩ := h; exact ⟨sv, h1.ext k, h2.ext k, h3⟩
theorem BxH.stay {w w' : World} {base B s mb : Nat} {L : List (Value × Ch)} (h : BxH w base B L) (hst : StOk w s mb) (hF : Fr [s, mb] w w') : BxH w' base B L := by
  obtain ⟨sv, h1, h2, h3⟩ := h
  have hne := hst.ne_ob h1 (by decide)
  exact ⟨sv, h1.fr hF (by simp only [List.mem_cons, List.not_mem_nil, or_false]; omega), h2.stay hF (fun b hb => ⟨hst.nt (by decide) b hb, hst.nt (by decide) b hb⟩), h3⟩
set_option maxHeartbeats 1000000 in
theorem isChange_c (UA : Option Addr) (ul uc : Nat) (c : Ch) (w : World) : Calls Try.prog 28 #[chV (.slice UA ul uc) c] w fun e w' => e = .returned (.bool (decide (0 < c.1))) ∧ Ext w w' := by
  obtain ⟨cs, cr, ⟨o1, o2⟩, n1, n2⟩ := c
  by_cases h : 0 < cs
  · have hI : (0 : Int) < cs := by omega
    have d1 : decide (0 < cs) = true := decide_eq_true h
    go_enter Try.func28, Try.ntmps28
    go_wp2_with fail
    go_returns
    exact ⟨by simp [h], (Ext.refl w).alloc _⟩
  · have hI : ¬ (0 : Int) < cs := by omega
    obtain rfl : cs = 0 := by omega
    go_enter Try.func28, Try.ntmps28
    go_wp2_with fail
    go_returns
    exact ⟨by simp, (Ext.refl w).alloc _⟩
theorem chO_new (u : Value) (c : Ch) (w : World) : Sl (w.alloc (.cells (chO u c).toArray 42)) [] 6 (.slice (some ⟨w.heap.size, 0, none⟩) 1 1) 1 (chO u c) :=
  Sl.own (World.ownsRow_lit (base := w.heap.size) (e := 42) (size := 6) w (chO u c).toArray 1 (Nat.le_refl _) (by decide) rfl) (by simp)
theorem chO_one {UA : Option Addr} {ul uc : Nat} {c : Ch} : ∀ x ∈ chO (.slice UA ul uc) c, x.oneCell' = true := by
  intro x hx; simp [chO] at hx; rcases hx with rfl | rfl | rfl | rfl | rfl | rfl <;> rfl
set_option maxHeartbeats 8000000 in
set_option maxRecDepth 100000 in
theorem chgPut_c (wA : World) (B s mb : Nat) (L : List (Value × Ch)) (k i f t : Int) (u v : Value) (VA : Option Addr) (vl vc : Nat) (hv : v = .slice VA vl vc) (c : Ch) (hu : Rw wA [] u c.2.1) (hr8 : c.2.1.length ≤ 8) (e : Int) (hl : L.length ≤ 100000) (w : World) (h : BxH w wA.heap.size B L) (hX : Ext wA w) (hst : StOk w s mb) :
    Calls Try.prog 48 #[mg k i f t v, chV u c, .int .i64 e, .pointer (some ⟨B, 0, none⟩)] w fun r w' => r = .returned (.tuple #[]) ∧ (∃ L', BxH w' wA.heap.size B L' ∧ L'.map Prod.snd = L.map Prod.snd ++ (if decide (0 < c.1) then [c] else [])) ∧ Ext wA w' ∧ w'.heap[s]? = w.heap[s]? ∧ w'.heap[mb]? = w.heap[mb]? := by
  have hcp := hide (fun w' (hx : Ext wA w') => rowCopy_c c.2.1 u w' (Sl.ext hu hx) (by omega))
  obtain ⟨UA, uc, eu⟩ := rw_val hu
  subst hv; subst eu
  have hic := hide (fun w => isChange_c UA c.2.1.length uc c w)
  have hh := h
  obtain ⟨sv, hO, ho, hB⟩ := h
  obtain ⟨A, cap, rfl⟩ := ho.form
  have hlt := hO.lt
  have q0 := hO.cell 0 rfl
  haveI : In B w := ⟨hlt⟩
  have hbase := hX.size
  have hne1 := hst.ne_ob hO (by decide)
  have hnB := hO.not_own ho.1 (by decide)
  replace hO := hide hO
  replace ho := hide ho
  cases hc : decide (0 < c.1)
  · rw [hc] at hic
    replace hh := hide hh
    go_enter Try.func48, Try.ntmps48
    go_wp2_with (go_at_call 28; first | ((with_reducible refine seq_gw' (hic.out _) ?_); intro g1) | ((with_reducible refine seq_gw (hic.out _) ?_); intro g1))
    go_end0
    have hXb := (Gn.ext (w := w) : Ext w g1.val)
    exact ⟨rfl, ⟨L, hh.out.ext hXb, by simp⟩, put_done (Fr.of_ext (S := []) hXb) hX (by simp) hst⟩
  · rw [hc] at hic
    obtain ⟨cs, cr, ⟨o1, o2⟩, n1, n2⟩ := c
    simp only at hr8 hcp hic
    clear hh hu
    have hOc0 := hide (show Ob ((w.alloc (mO k i f t (.slice VA vl vc))).alloc (.cells (chO (.slice UA cr.length uc) (cs, cr, (o1, o2), n1, n2)).toArray 42)) (w.heap.size + 1) 42 (chO (.slice UA cr.length uc) (cs, cr, (o1, o2), n1, n2)) by
      have := Ob.new (w.alloc (mO k i f t (.slice VA vl vc))) 42 (chO (.slice UA cr.length uc) (cs, cr, (o1, o2), n1, n2))
      rw [World.size_alloc] at this
      exact this)
    go_enter Try.func48, Try.ntmps48
    go_wp2_with (first | (go_at_call 28; first | ((with_reducible refine seq_gw' (hic.out _) ?_); intro g1) | ((with_reducible refine seq_gw (hic.out _) ?_); intro g1)) | (go_at_call 29; (refine (hcp.out g1.val (hX.trans (Gn.ext (w := w)))).mono ?_; rintro ee w2 ⟨v2, rfl, ho2, hx2⟩; obtain ⟨A2, c2, e2⟩ := own_form ho2; subst e2; have hX2 := hide ((Gn.ext (w := w) : Ext w g1.val).trans hx2); have hOc := hOc0.out.ext (g1.grown.trans hx2); have y0 := hOc.cell 0 rfl; have y1 := hOc.cell 1 rfl; have y2 := hOc.cell 2 rfl; have y3 := hOc.cell 3 rfl; have y4 := hOc.cell 4 rfl; have y5 := hOc.cell 5 rfl; have e1 := hOc.free 1; have yl := hOc.lt; haveI : In (w.heap.size + 1) w2 := ⟨yl⟩; have hOB := hO.out.ext hX2.out; have b0 := hOB.cell 0 rfl; have bl := hOB.lt; haveI : In B w2 := ⟨bl⟩; have hR2 : Hid (RwO w2 (.slice A2 cr.length c2) cr) := own_base ho2 (Nat.zero_le _); replace hOc := hide hOc; have hsrc := hide (show Sl ((w2.setCell ⟨w.heap.size + 1, 1, none⟩ (.slice A2 cr.length c2)).alloc (.cells (chO (.slice A2 cr.length c2) (cs, cr, (o1, o2), n1, n2)).toArray 42)) [] 6 (.slice (some ⟨w2.heap.size, 0, none⟩) 1 1) 1 (chO (.slice A2 cr.length c2) (cs, cr, (o1, o2), n1, n2)) by (have := chO_new (.slice A2 cr.length c2) (cs, cr, (o1, o2), n1, n2) (w2.setCell ⟨w.heap.size + 1, 1, none⟩ (.slice A2 cr.length c2)); rw [World.size_setCell] at this; exact this)); have hXW := hide ((hX2.out.setCell (p := ⟨w.heap.size + 1, 1, none⟩) (Nat.le_succ _) (.slice A2 cr.length c2)).alloc (.cells (chO (.slice A2 cr.length c2) (cs, cr, (o1, o2), n1, n2)).toArray 42)); have hRW := hide (((RwO.stay hR2.out ((Fr.refl [w.heap.size + 1] w2).setCell ⟨w.heap.size + 1, 1, none⟩ (.slice A2 cr.length c2) (.inl (by simp))) (by intro b hb; rw [List.mem_singleton.1 hb]; exact hOc.out.nt (by decide)))).ext ((Ext.refl _).alloc (.cells (chO (.slice A2 cr.length c2) (cs, cr, (o1, o2), n1, n2)).toArray 42))); clear ho2 hx2 hOB)) | (at_builtin; (refine wpl_app tChs rfl (.tmp 13) (.tmp 15) rfl rfl (ho.out.ext hXW.out).1 rfl (src_sl Try.underlying72 hsrc.out chO_one (by omega)) (by unfold maxLen; omega) (by omega) (by simp only [World.size_alloc, World.size_setCell]; omega) ?_; intro v1 w1 ho1 hg1 hob1; replace hg1 : World.grownBy _ w1 (Value.slice A L.length cap).ownBlock := hg1; have O1 := (hO.out.ext hXW.out).grown hg1 (fun e => hnB e.symm); have k0 := O1.cell 0 rfl; have z0 := O1.free 0; have hlt1 := O1.lt; haveI : In B w1 := ⟨hlt1⟩; have hN1 := hide ((ho.out.ext hXW.out).app (M := [((.slice A2 cr.length c2), (cs, cr, (o1, o2), n1, n2))]) (by decide) (by simpa using ho1) hg1 (by intro p hp; rw [List.mem_singleton.1 hp]; exact hRW.out)); obtain ⟨A1, cp1, rfl⟩ := own_form ho1)))
    go_end0
    have hge := ob_ge ho.out.1
    have hne2 := hst.ne_own ho.out.1 (by decide)
    have hF := ((Fr.of_ext (S := B :: ob (.slice A L.length cap)) hXW.out).then (fr_grown hg1) (fun x hx => .inl (by simp; exact .inr (by simpa [ob] using hx)))).setCell ⟨B, 0, none⟩ (.slice A1 (L.length + 1) cp1) (.inl (by simp))
    have hP := put_done hF hX (by
      intro b hb
      rcases List.mem_cons.1 hb with rfl | hb
      · exact ⟨hB, hne1⟩
      · exact ⟨(hge b hb).1, hne2 b hb⟩) hst
    refine ⟨rfl, ⟨L ++ [((.slice A2 cr.length c2), (cs, cr, (o1, o2), n1, n2))], ⟨.slice A1 (L.length + 1) cp1, O1.set 0 _, ?_, hB⟩, by simp⟩, hP⟩
    exact hN1.out.stay ((Fr.refl [B] w1).setCell ⟨B, 0, none⟩ (.slice A1 (L.length + 1) cp1) (.inl (by simp))) (by intro b hb; rw [List.mem_singleton.1 hb]; exact ⟨O1.nt (by decide), O1.nt (by decide)⟩)
end Go.Proofs.Ytkfdkjjocdbolaa
set_option linter.unusedVariables false
set_option linter.unusedSimpArgs false
namespace Go.Proofs.Ytkfdkjjocdbolaa
open Go.RowKit
attribute [local go_sem] GW.cell GW.frozen In.eq_true In.le_true In.ne In.ne' In.ne_add In.ne_add' In.lt_add Upto.le_true Upto.le_add Upto.lt_add
def evO (v : Value) (x : Ex) : List Value := [.int .i64 x.1.1, v, .int .i64 x.2.1, .int .i64 x.2.2]
abbrev evV (v : Value) (x : Ex) : Value := .agg #[.int .i64 x.1.1, v, .int .i64 x.2.1, .int .i64 x.2.2]
theorem tEvs : ElemT Try.prog 45 48 (.agg #[.int .i64 0, .slice none 0 0, .int .i64 0, .int .i64 0]) 4 48 := ElemT.mk' Try.underlying45 (by kernel_rfl) rfl (by omega)
abbrev OwnEx := OwnX 48 4 evO (fun x : Ex => x.1.2)
/-- The box of the events. -/
def BxE (w : World) (base B : Nat) (L : List (Value × Ex)) : Prop := ∃ sv, Ob w B 45 [sv] ∧ OwnEx w base sv L ∧ base ≤ B
theorem BxE.ext {w w' : World} {base B : Nat} {L : List (Value × Ex)} (h : BxE w base B L) (k : Ext w w') : BxE w' base B L := by obtain ⟨sv, h1, h2, h3⟩ := h; exact ⟨sv, h1.ext k, h2.ext k, h3⟩
theorem BxE.stay {w w' : World} {base B s mb : Nat} {L : List (Value × Ex)} (h : BxE w base B L) (hst : StOk w s mb) (hF : Fr [s, mb] w w') : BxE w' base B L := by
  obtain ⟨sv, h1, h2, h3⟩ := h
  have hne := hst.ne_ob h1 (by decide)
  exact ⟨sv, h1.fr hF (by simp only [List.mem_cons, List.not_mem_nil, or_false]; omega), h2.stay hF (fun b hb => ⟨hst.nt (by decide) b hb, hst.nt (by decide) b hb⟩), h3⟩
theorem evO_new (u : Value) (x : Ex) (w : World) : Sl (w.alloc (.cells (evO u x).toArray 48)) [] 4 (.slice (some ⟨w.heap.size, 0, none⟩) 1 1) 1 (evO u x) :=
  Sl.own (World.ownsRow_lit (base := w.heap.size) (e := 48) (size := 4) w (evO u x).toArray 1 (Nat.le_refl _) (by decide) rfl) (by simp)
theorem evO_one {UA : Option Addr} {ul uc : Nat} {x : Ex} : ∀ y ∈ evO (.slice UA ul uc) x, y.oneCell' = true := by
  intro y hy; simp [evO] at hy; rcases hy with rfl | rfl | rfl | rfl <;> rfl
theorem buildEv (A : Option Addr) (n cap : Nat) (x : Ex) (w : World) : (Instr.buildSlice 45 1 #[(0, evV (.slice A n cap) x)]).run Try.prog w = .ok (.slice (some ⟨w.heap.size, 0, none⟩) 1 1) (w.alloc (.cells #[.int .i64 x.1.1, .slice A n cap, .int .i64 x.2.1, .int .i64 x.2.2] 48)) := by
  simp [go_sem]
def rowOF (r : List Vl) : Fact := .st (fun u w => RwO w u r) (fun _ _ _ h k => RwO.ext h k)
def evtF (x : Ex) : Fact := .st (fun u w => ∃ A cp, u = evV (.slice A x.1.2.length cp) x ∧ RwO w (.slice A x.1.2.length cp) x.1.2) (fun _ _ _ h k => by obtain ⟨A, cp, e, h⟩ := h; exact ⟨A, cp, e, RwO.ext h k⟩)
def oneEv (x : Ex) : Fact := .st (fun v w => ∃ A cp, Sl w [] 4 v 1 (evO (.slice A x.1.2.length cp) x) ∧ RwO w (.slice A x.1.2.length cp) x.1.2) (fun _ _ _ h k => by obtain ⟨A, cp, h1, h2⟩ := h; exact ⟨A, cp, Sl.ext h1 k, RwO.ext h2 k⟩)
theorem rwo_val {w : World} {v : Value} {l : List Vl} (h : RwO w v l) : ∃ A cap, v = .slice A l.length cap := own_form h
set_option maxHeartbeats 8000000 in
set_option maxRecDepth 100000 in
theorem evtPut0_c (wA : World) (B s mb : Nat) (L : List (Value × Ex)) (k i f t : Int) (u v : Value) (VA : Option Addr) (vl vc : Nat) (hv : v = .slice VA vl vc) (c : Ch) (hu : Rw wA [] u c.2.1) (h0 : decide (0 < c.1) = false) (e : Int) (w : World) (h : BxE w wA.heap.size B L) (hX : Ext wA w) (hst : StOk w s mb) :
    Calls Try.prog 27 #[mg k i f t v, chV u c, .int .i64 e, .pointer (some ⟨B, 0, none⟩)] w fun r w' => r = .returned (.tuple #[]) ∧ BxE w' wA.heap.size B L ∧ Ext wA w' ∧ w'.heap[s]? = w.heap[s]? ∧ w'.heap[mb]? = w.heap[mb]? := by
  obtain ⟨UA, uc, eu⟩ := rw_val hu
  subst hv; subst eu
  have hic := hide (fun w => isChange_c UA c.2.1.length uc c w)
  rw [h0] at hic
  replace h := hide h
  replace h0 := hide h0
  go_enter Try.func27, Try.ntmps27
  go_wp2_with (go_at_call 28; first | ((with_reducible refine seq_gw' (hic.out _) ?_); intro g1) | ((with_reducible refine seq_gw (hic.out _) ?_); intro g1))
  go_end0
  have hXb := (Gn.ext (w := w) : Ext w g1.val)
  exact ⟨rfl, h.out.ext hXb, put_done (Fr.of_ext (S := []) hXb) hX (by simp) hst⟩
set_option maxHeartbeats 8000000 in
set_option maxRecDepth 100000 in
theorem evtPut1_c (wA : World) (B s mb : Nat) (L : List (Value × Ex)) (i f t : Int) (u v : Value) (VA : Option Addr) (vl vc : Nat) (hv : v = .slice VA vl vc) (cs : Nat) (cr : List Vl) (o1 o2 n1 n2 : Int) (hu : Rw wA [] u cr) (hr8 : cr.length ≤ 8) (h0 : decide (0 < cs) = true) (e : Int) (hl : L.length ≤ 100000) (w : World) (h : BxE w wA.heap.size B L) (hX : Ext wA w) (hst : StOk w s mb) :
    Calls Try.prog 27 #[mg 1 i f t v, chV u (cs, cr, (o1, o2), (n1, n2)), .int .i64 e, .pointer (some ⟨B, 0, none⟩)] w fun r w' => r = .returned (.tuple #[]) ∧ (∃ L', BxE w' wA.heap.size B L' ∧ L'.map Prod.snd = L.map Prod.snd ++ [((i, cr), (n1, n2))]) ∧ Ext wA w' ∧ w'.heap[s]? = w.heap[s]? ∧ w'.heap[mb]? = w.heap[mb]? := by
  have hcp := hide (fun w' (hx : Ext wA w') => rowCopy_c cr u w' (Sl.ext hu hx) (by omega))
  obtain ⟨UA, uc, eu⟩ := rw_val hu
  subst hv; subst eu
  have hic := hide (fun w => isChange_c UA cr.length uc (cs, cr, (o1, o2), (n1, n2)) w)
  simp only at hic
  rw [h0] at hic
  obtain ⟨sv, hO, ho, hB⟩ := h
  obtain ⟨A, cap, rfl⟩ := ho.form
  have hlt := hO.lt
  have q0 := hide (hO.cell 0 rfl)
  haveI : In B w := ⟨hlt⟩
  have hbase := hX.size
  have hne1 := hst.ne_ob hO (by decide)
  have hnB := hO.not_own ho.1 (by decide)
  replace hO := hide hO
  replace ho := hide ho
  replace h0 := hide h0
  have hOm0 := hide (show Ob ((w.alloc (mO 1 i f t (.slice VA vl vc))).alloc (.cells (chO (.slice UA cr.length uc) (cs, cr, (o1, o2), (n1, n2))).toArray 42)) w.heap.size 28 [.int .i64 1, .int .i64 i, .int .i64 f, .int .i64 t, .slice VA vl vc] from (Ob.new w 28 [.int .i64 1, .int .i64 i, .int .i64 f, .int .i64 t, .slice VA vl vc]).alloc _)
  have hOc0 := hide (show Ob ((w.alloc (mO 1 i f t (.slice VA vl vc))).alloc (.cells (chO (.slice UA cr.length uc) (cs, cr, (o1, o2), (n1, n2))).toArray 42)) (w.heap.size + 1) 42 (chO (.slice UA cr.length uc) (cs, cr, (o1, o2), (n1, n2))) by
    have := Ob.new (w.alloc (mO 1 i f t (.slice VA vl vc))) 42 (chO (.slice UA cr.length uc) (cs, cr, (o1, o2), (n1, n2)))
    rw [World.size_alloc] at this
    exact this)
  go_enter Try.func27, Try.ntmps27
  go_wp2_with (go_at_call 28; first | ((with_reducible refine seq_gw' (hic.out _) ?_); intro g1) | ((with_reducible refine seq_gw (hic.out _) ?_); intro g1))
  have hOm := hOm0.out.ext g1.grown
  have hOc := hOc0.out.ext g1.grown
  have x1 := hide (hOm.cell 1 rfl)
  have y1 := hide (hOc.cell 1 rfl)
  have y4 := hide (hOc.cell 4 rfl)
  have y5 := hide (hOc.cell 5 rfl)
  have hXg := hide (Gn.ext (w := w) : Ext w g1.val)
  have qB := hide ((hO.out.ext hXg.out).cell 0 rfl)
  refine wp_region_list_tail 10 [(.is (.slice A L.length cap)), (.is (.pointer (some ⟨w.heap.size, 1, none⟩))), (.is (.int .i64 i)), (.is (.pointer (some ⟨w.heap.size + 1, 1, none⟩))), (.is (.slice UA cr.length uc)), rowOF cr, (.is (.pointer (some ⟨w.heap.size + 1, 4, none⟩))), (.is (.agg #[.int .i64 n1, .int .i64 n2])), evtF ((i, cr), (n1, n2)), oneEv ((i, cr), (n1, n2))] (by kernel_rfl) (by kernel_rfl) (by kernel_rfl) (by kernel_rfl) (by kernel_rfl) (by kernel_rfl) (by kernel_rfl) ?_ ?_
  · refine ⟨?_, ?_, ?_, ?_, ?_, ?_, ?_, ?_, ?_, ?_, trivial⟩
    · intro b w' h hE
      have f3 : b.tmps.getD 3 undef = .pointer (some ⟨B, 0, none⟩) := hE 3 (of_decide_eq_true (by kernel_rfl))
      have c0 := cell_later h.ext qB.out
      exact good_load (wanted_none rfl) rfl f3 (by simp [go_sem, c0]) rfl
    · intro b w' h hE
      have f4 : b.tmps.getD 4 undef = .pointer (some ⟨w.heap.size, 0, none⟩) := hE 4 (of_decide_eq_true (by kernel_rfl))
      exact good_field (wanted_none rfl) rfl f4 (by simp [go_sem]) rfl
    · intro b w' h hE
      have f16 : b.tmps.getD 16 undef = .pointer (some ⟨w.heap.size, 1, none⟩) := h.dep 1 _ 16 (by kernel_rfl) rfl rfl
      have c0 := cell_later h.ext x1.out
      exact good_load (wanted_none rfl) rfl f16 (by simp [go_sem, c0]) rfl
    · intro b w' h hE
      have f5 : b.tmps.getD 5 undef = .pointer (some ⟨w.heap.size + 1, 0, none⟩) := hE 5 (of_decide_eq_true (by kernel_rfl))
      exact good_field (wanted_none rfl) rfl f5 (by simp [go_sem]) rfl
    · intro b w' h hE
      have f18 : b.tmps.getD 18 undef = .pointer (some ⟨w.heap.size + 1, 1, none⟩) := h.dep 3 _ 18 (by kernel_rfl) rfl rfl
      have c0 := cell_later h.ext y1.out
      exact good_load (wanted_none rfl) rfl f18 (by simp [go_sem, c0]) rfl
    · intro b w' h hE
      have f19 : b.tmps.getD 19 undef = .slice UA cr.length uc := h.dep 4 _ 19 (by kernel_rfl) rfl rfl
      have g19 : b.tmps[19]?.getD undef = .slice UA cr.length uc := by rw [← Array.getD_eq_getD_getElem?]; exact f19
      refine good_call (wanted_none rfl) rfl (enters Try.func29 (by kernel_rfl) rfl) ?_
      rw [show (#[.tmp 19] : Array Operand).map b.eval = #[.slice UA cr.length uc] by simp [Act.eval, g19]]
      exact (hcp.out w' (hX.trans (hXg.out.trans h.ext))).mono fun e w1 ⟨v, he, ho, hx⟩ => ⟨v, he, own_base ho (Nat.zero_le _), hx⟩
    · intro b w' h hE
      have f5 : b.tmps.getD 5 undef = .pointer (some ⟨w.heap.size + 1, 0, none⟩) := hE 5 (of_decide_eq_true (by kernel_rfl))
      exact good_field (wanted_none rfl) rfl f5 (by simp [go_sem]) rfl
    · intro b w' h hE
      have f21 : b.tmps.getD 21 undef = .pointer (some ⟨w.heap.size + 1, 4, none⟩) := h.dep 6 _ 21 (by kernel_rfl) rfl rfl
      have c4 := cell_later h.ext y4.out
      have c5 := cell_later h.ext y5.out
      exact good_load (wanted_none rfl) rfl f21 (by simp [go_sem, c4, c5]) rfl
    · intro b w' h hE
      have f17 : b.tmps.getD 17 undef = .int .i64 i := h.dep 2 _ 17 (by kernel_rfl) rfl rfl
      have g17 : b.tmps[17]?.getD undef = .int .i64 i := by rw [← Array.getD_eq_getD_getElem?]; exact f17
      have f20 : RwO w' (b.tmps.getD 20 undef) cr := h.dep 5 _ 20 (by kernel_rfl) rfl rfl
      have f22 : b.tmps.getD 22 undef = .agg #[.int .i64 n1, .int .i64 n2] := h.dep 7 _ 22 (by kernel_rfl) rfl rfl
      have g22 : b.tmps[22]?.getD undef = .agg #[.int .i64 n1, .int .i64 n2] := by rw [← Array.getD_eq_getD_getElem?]; exact f22
      obtain ⟨A2, cp, e20⟩ := rwo_val f20
      have g20 : b.tmps[20]?.getD undef = .slice A2 cr.length cp := by rw [← Array.getD_eq_getD_getElem?]; exact e20
      rw [e20] at f20
      exact good_run (wanted_none rfl) (v := evV (.slice A2 cr.length cp) ((i, cr), (n1, n2))) (by simp [execOp, Act.eval, go_sem, g17, g20, g22, Sem.run_bind, Sem.run_pure, Result.andThen_ok]) ⟨A2, cp, rfl, f20⟩
    · intro b w' h hE
      have f23 : ∃ A2 cp, (b.tmps.getD 23 undef) = evV (.slice A2 cr.length cp) ((i, cr), (n1, n2)) ∧ RwO w' (.slice A2 cr.length cp) cr := h.dep 8 _ 23 (by kernel_rfl) rfl rfl
      obtain ⟨A2, cp, e23, hr23⟩ := f23
      have g23 : b.tmps[23]?.getD undef = evV (.slice A2 cr.length cp) ((i, cr), (n1, n2)) := by rw [← Array.getD_eq_getD_getElem?]; exact e23
      have := buildEv A2 cr.length cp ((i, cr), (n1, n2)) w'
      refine good_grow (w' := w'.alloc (.cells #[.int .i64 i, .slice A2 cr.length cp, .int .i64 n1, .int .i64 n2] 48)) (v := .slice (some ⟨w'.heap.size, 0, none⟩) 1 1) (wanted_none rfl) ?_ ⟨_, _, evO_new (.slice A2 cr.length cp) ((i, cr), (n1, n2)) w', RwO.ext hr23 ((Ext.refl _).alloc _)⟩ ((Ext.refl _).alloc _)
      simp [execOp, Act.eval, g23, this, Sem.run_bind, Sem.run_pure, Result.andThen_ok]
  · intro b w2 hX2 hd hz he' hf
    have e15 : b.tmps.getD 15 undef = .slice A L.length cap := hf 0 _ 15 (by omega) rfl rfl
    have e16 : b.tmps.getD 16 undef = .pointer (some ⟨w.heap.size, 1, none⟩) := hf 1 _ 16 (by omega) rfl rfl
    have e17 : b.tmps.getD 17 undef = .int .i64 i := hf 2 _ 17 (by omega) rfl rfl
    have e18 : b.tmps.getD 18 undef = .pointer (some ⟨w.heap.size + 1, 1, none⟩) := hf 3 _ 18 (by omega) rfl rfl
    have e19 : b.tmps.getD 19 undef = .slice UA cr.length uc := hf 4 _ 19 (by omega) rfl rfl
    have f20 : RwO w2 (b.tmps.getD 20 undef) cr := hf 5 _ 20 (by omega) rfl rfl
    have e21 : b.tmps.getD 21 undef = .pointer (some ⟨w.heap.size + 1, 4, none⟩) := hf 6 _ 21 (by omega) rfl rfl
    have e22 : b.tmps.getD 22 undef = .agg #[.int .i64 n1, .int .i64 n2] := hf 7 _ 22 (by omega) rfl rfl
    have f23 : ∃ A2 cp, (b.tmps.getD 23 undef) = evV (.slice A2 cr.length cp) ((i, cr), (n1, n2)) ∧ RwO w2 (.slice A2 cr.length cp) cr := hf 8 _ 23 (by omega) rfl rfl
    have f24 : ∃ A2 cp, Sl w2 [] 4 (b.tmps.getD 24 undef) 1 (evO (.slice A2 cr.length cp) ((i, cr), (n1, n2))) ∧ RwO w2 (.slice A2 cr.length cp) cr := hf 9 _ 24 (by omega) rfl rfl
    have e := frame_puts hd hz he'
    obtain ⟨X, hXx⟩ : ∃ X : Nat → Value, ∀ d, b.tmps.getD d undef = X d := ⟨_, fun _ => rfl⟩
    rw [hXx] at e15 e16 e17 e18 e19 f20 e21 e22 f23 f24
    obtain ⟨A20, c20, q20⟩ := rwo_val f20
    obtain ⟨A23, c23, q23, -⟩ := f23
    obtain ⟨A24, c24, f24, r24⟩ := f24
    obtain ⟨A25, c25, q24⟩ := sl_form f24
    rw [show dstsOf _ = [15, 16, 17, 18, 19, 20, 21, 22, 23, 24] from rfl] at e
    simp only [List.foldl_cons, List.foldl_nil, hXx, Act.put, List.setIfInBounds_toArray, List.set_cons_succ, List.set_cons_zero] at e
    rw [e15, e16, e17, e18, e19, q20, e21, e22, q23, q24] at e
    rw [q24] at f24
    replace f24 := hide f24
    replace r24 := hide r24
    clear hf he' hz hd hXx e15 e16 e17 e18 e19 e21 e22 q20 q23 q24 f20
    subst e
    have hX2w := hide (hXg.out.trans hX2)
    simp only [List.drop_succ_cons, List.drop_zero]
    go_wp2_with (at_builtin; (refine wpl_app tEvs rfl (.tmp 15) (.tmp 24) rfl rfl (ho.out.ext hX2w.out).1 rfl (src_sl Try.underlying45 f24.out evO_one (by omega)) (by unfold maxLen; omega) (by omega) (by have := hX2w.out.size; omega) ?_; intro v1 w1 ho1 hg1 hob1; replace hg1 : World.grownBy _ w1 (Value.slice A L.length cap).ownBlock := hg1; have O1 := (hO.out.ext hX2w.out).grown hg1 (fun e => hnB e.symm); have k0 := O1.cell 0 rfl; have z0 := O1.free 0; have hlt1 := O1.lt; haveI : In B w1 := ⟨hlt1⟩; have hN1 := hide ((ho.out.ext hX2w.out).app (M := [((.slice A24 cr.length c24), ((i, cr), (n1, n2)))]) (by decide) (by simpa using ho1) hg1 (by intro p hp; rw [List.mem_singleton.1 hp]; exact r24.out)); obtain ⟨A1, cp1, rfl⟩ := own_form ho1))
    go_end0
    have hge := ob_ge ho.out.1
    have hne2 := hst.ne_own ho.out.1 (by decide)
    have hF := ((Fr.of_ext (S := B :: ob (.slice A L.length cap)) hX2w.out).then (fr_grown hg1) (fun x hx => .inl (by simp; exact .inr (by simpa [ob] using hx)))).setCell ⟨B, 0, none⟩ (.slice A1 (L.length + 1) cp1) (.inl (by simp))
    have hP := put_done hF hX (by
      intro b hb
      rcases List.mem_cons.1 hb with rfl | hb
      · exact ⟨hB, hne1⟩
      · exact ⟨(hge b hb).1, hne2 b hb⟩) hst
    refine ⟨rfl, ⟨L ++ [((.slice A24 cr.length c24), ((i, cr), (n1, n2)))], ⟨.slice A1 (L.length + 1) cp1, O1.set 0 _, ?_, hB⟩, by simp⟩, hP⟩
    exact hN1.out.stay ((Fr.refl [B] w1).setCell ⟨B, 0, none⟩ (.slice A1 (L.length + 1) cp1) (.inl (by simp))) (by intro b hb; rw [List.mem_singleton.1 hb]; exact ⟨O1.nt (by decide), O1.nt (by decide)⟩)
end Go.Proofs.Ytkfdkjjocdbolaa
set_option linter.unusedVariables false
set_option linter.unusedSimpArgs false
namespace Go.Proofs.Ytkfdkjjocdbolaa
open Go.RowKit
attribute [local go_sem] GW.cell GW.frozen In.eq_true In.le_true In.ne In.ne' In.ne_add In.ne_add' In.lt_add Upto.le_true Upto.le_add Upto.lt_add
abbrev evs (L : List (Value × Ex)) : List Value := L.flatMap fun p => evO p.1 p.2
theorem evs_get : ∀ (L : List (Value × Ex)) (i : Nat) (p : Value × Ex), L[i]? = some p → ∀ j u, (evO p.1 p.2)[j]? = some u → (evs L)[i * 4 + j]? = some u
  | q :: r, 0, p, h, j, u, hu => by
    simp at h; subst h
    have hj : j < (evO q.1 q.2).length := (List.getElem?_eq_some_iff.1 hu).1
    rw [show evs (q :: r) = evO q.1 q.2 ++ evs r by simp [evs], List.getElem?_append_left (by omega), show 0 * 4 + j = j by omega]; exact hu
  | q :: r, i + 1, p, h, j, u, hu => by
    have := evs_get r i p (by simpa using h) j u hu
    rw [show evs (q :: r) = evO q.1 q.2 ++ evs r by simp [evs], show (i + 1) * 4 + j = (evO q.1 q.2).length + (i * 4 + j) by simp [evO]; omega, List.getElem?_append_right (by omega), Nat.add_sub_cancel_left]
    exact this
theorem evs_set (n1 n2 : Int) : ∀ (L : List (Value × Ex)) (i : Nat) (p : Value × Ex), L[i]? = some p → evs (L.set i (p.1, (p.2.1, (n1, n2)))) = ((evs L).set (i * 4 + 2) (.int .i64 n1)).set (i * 4 + 3) (.int .i64 n2)
  | q :: r, 0, p, h => by
    simp at h; subst h
    simp [evs, evO]
  | q :: r, i + 1, p, h => by
    have ih := evs_set n1 n2 r i p (by simpa using h)
    have e : evs (q :: r) = evO q.1 q.2 ++ evs r := by simp [evs]
    have hl : (evO q.1 q.2).length = 4 := rfl
    rw [List.set_cons_succ, show evs (q :: r.set i (p.1, (p.2.1, (n1, n2)))) = evO q.1 q.2 ++ evs (r.set i (p.1, (p.2.1, (n1, n2)))) by simp [evs], ih, e]
    rw [List.set_append_right _ _ (by rw [hl]; omega), List.set_append_right _ _ (by rw [hl]; omega), hl]
    congr 2
    · congr 1; omega
    · omega
set_option maxHeartbeats 8000000 in
set_option maxRecDepth 100000 in
theorem evtPut2_c (wA : World) (B s mb : Nat) (L : List (Value × Ex)) (k i f t : Int) (hk : k ≠ 1) (u v : Value) (VA : Option Addr) (vl vc : Nat) (hv : v = .slice VA vl vc) (cs : Nat) (cr : List Vl) (o1 o2 n1 n2 : Int) (hu : Rw wA [] u cr) (h0 : decide (0 < cs) = true) (p : Value × Ex) (hp : L[cs - 1]? = some p) (e : Int) (hl : L.length ≤ 100000) (w : World) (h : BxE w wA.heap.size B L) (hX : Ext wA w) (hst : StOk w s mb) :
    Calls Try.prog 27 #[mg k i f t v, chV u (cs, cr, (o1, o2), (n1, n2)), .int .i64 e, .pointer (some ⟨B, 0, none⟩)] w fun r w' => r = .returned (.tuple #[]) ∧ (∃ L', BxE w' wA.heap.size B L' ∧ L'.map Prod.snd = (L.map Prod.snd).set (cs - 1) (p.2.1, (n1, n2))) ∧ Ext wA w' ∧ w'.heap[s]? = w.heap[s]? ∧ w'.heap[mb]? = w.heap[mb]? := by
  obtain ⟨UA, uc, eu⟩ := rw_val hu
  subst hv; subst eu
  have hic := hide (fun w => isChange_c UA cr.length uc (cs, cr, (o1, o2), (n1, n2)) w)
  simp only at hic
  rw [h0] at hic
  have hk1 : (k == 1) = false := by simp [hk]
  have hcs : 1 ≤ cs := of_decide_eq_true h0
  obtain ⟨j, hjc⟩ : ∃ j, j = cs - 1 := ⟨_, rfl⟩
  rw [← hjc] at hp ⊢
  have hsub : (cs : Int) - 1 = (j : Int) := by omega
  have hj : j < L.length := (List.getElem?_eq_some_iff.1 hp).1
  obtain ⟨sv, hO, ho, hB⟩ := h
  obtain ⟨g, cap, cur, rfl, hgb, hg, r⟩ : ∃ g cap cur, sv = .slice (some ⟨g, 0, none⟩) L.length cap ∧ wA.heap.size ≤ g ∧ w.heap[g]? = some (.cells cur 48) ∧ L.length ≤ cap := by
    rcases ho.1.2 with ⟨-, h2⟩ | ⟨g, cap, cur, e1, hb, hg, hn, -⟩
    · omega
    · exact ⟨g, cap, cur, e1, hb, hg, hn⟩
  have c2 := ho.1.cells (g := g) rfl (j * 4 + 2) _ (evs_get L j p hp 2 _ rfl)
  have c3 := ho.1.cells (g := g) rfl (j * 4 + 3) _ (evs_get L j p hp 3 _ rfl)
  rw [add_plain, Nat.zero_add] at c2 c3
  have z2 := frozen_of_row w g (j * 4 + 2) cur 48 hg
  have z3 := frozen_of_row w g (j * 4 + 3) cur 48 hg
  have hgl := block_lt_of_cell c2
  haveI : In g w := ⟨hgl⟩
  have hlt := hO.lt
  have q0 := hO.cell 0 rfl
  haveI : In B w := ⟨hlt⟩
  have hne1 := hst.ne_ob hO (by decide)
  have hne2 := hst.ne_own ho.1 (by decide)
  have hnB := hO.not_own ho.1 (by decide)
  have hjI : ((j : Int)) < L.length := by omega
  replace hO := hide hO
  replace ho := hide ho
  replace h0 := hide h0
  replace hg := hide hg
  replace hjc := hide hjc
  replace hcs := hide hcs
  go_enter Try.func27, Try.ntmps27
  go_wp2_with (go_at_call 28; first | ((with_reducible refine seq_gw' (hic.out _) ?_); intro g1) | ((with_reducible refine seq_gw (hic.out _) ?_); intro g1))
  go_end0
  have hXg := (Gn.ext (w := w) : Ext w g1.val)
  have hF : Fr [g] w ((g1.val.setCell ⟨g, j * 4 + 2, none⟩ (.int .i64 n1)).setCell ⟨g, j * 4 + 3, none⟩ (.int .i64 n2)) := ((Fr.of_ext (S := [g]) hXg).setCell ⟨g, j * 4 + 2, none⟩ (.int .i64 n1) (.inl (by simp))).setCell ⟨g, j * 4 + 3, none⟩ (.int .i64 n2) (.inl (by simp))
  have hob : g ∈ ob (.slice (some ⟨g, 0, none⟩) L.length cap) := by simp [ob, Value.ownBlock]
  have hP := put_done hF hX (by intro b hb; rw [List.mem_singleton.1 hb]; exact ⟨hgb, hne2 g hob⟩) hst
  have hNv := own_nt ho.out.1 (e := 54) (by decide) g hob
  refine ⟨rfl, ⟨L.set j (p.1, (p.2.1, (n1, n2))), ⟨.slice (some ⟨g, 0, none⟩) L.length cap, hO.out.fr hF (by simp only [List.mem_singleton]; intro e; subst e; exact hnB (by simp [Value.ownBlock])), ⟨?_, fun q hq => ?_⟩, hB⟩, by rw [List.map_set]⟩, hP⟩
  · have h1 := (World.ownsRow.stored (own_ext ho.out.1 hXg) (j * 4 + 2) (.int .i64 n1)).1
    have h2 := (World.ownsRow.stored h1 (j * 4 + 3) (.int .i64 n2)).1
    rw [List.length_set]
    have e := evs_set n1 n2 L j p hp
    unfold evs at e
    rw [e]
    exact h2
  · rcases List.mem_or_eq_of_mem_set hq with hq | rfl
    · exact (ho.out.2 q hq).stay hF (by intro b hb; rw [List.mem_singleton.1 hb]; exact hNv)
    · exact (RwO.stay (ho.out.2 p (List.mem_of_getElem? hp)) hF (by intro b hb; rw [List.mem_singleton.1 hb]; exact hNv) : RwO _ p.1 p.2.1.2)
end Go.Proofs.Ytkfdkjjocdbolaa
set_option linter.unusedVariables false
set_option linter.unusedSimpArgs false
namespace Go.Proofs.Ytkfdkjjocdbolaa
open Go.RowKit
attribute [local go_sem] GW.cell GW.frozen In.eq_true In.le_true In.ne In.ne' In.ne_add In.ne_add' In.lt_add Upto.le_true Upto.le_add Upto.lt_add
abbrev Le := Value × Ex
def goneX (x : Ex) : Bool := decide (x.2.1 = 0 ∧ x.2.2 = 0)
def filtE (L : List Le) : List Le := L.filter fun p => !goneX p.2
def idxE : Nat → List Le → Int
  | _, [] => -1
  | k, p :: r => if goneX p.2 = true then (k : Int) else idxE (k + 1) r
theorem filtE_next {l : List Le} {k : Nat} {x : Le} (hx : l[k]? = some x) : filtE (l.take (k + 1)) = if goneX x.2 = true then filtE (l.take k) else filtE (l.take k) ++ [x] := by
  unfold filtE
  rw [take_one hx, List.filter_append]
  cases h : goneX x.2 <;> simp [h]
theorem idxE_none : ∀ (l : List Le) (k : Nat), idxE k l = -1 → filtE l = l
  | [], _, _ => rfl
  | x :: r, k, h => by
    unfold idxE at h
    cases hx : goneX x.2
    · rw [hx] at h
      have := idxE_none r (k + 1) (by simpa using h)
      unfold filtE at this ⊢
      rw [List.filter_cons, hx]
      simp only [Bool.not_false, if_true]
      rw [this]
    · rw [hx, if_pos rfl] at h; omega
theorem idxE_some : ∀ (l : List Le) (k : Nat), idxE k l ≠ -1 → ∃ i, idxE k l = ((k + i : Nat) : Int) ∧ i < l.length ∧ filtE (l.take i) = l.take i ∧ ∃ x, l[i]? = some x ∧ goneX x.2 = true
  | [], _, h => absurd rfl h
  | x :: r, k, h => by
    unfold idxE at h ⊢
    cases hx : goneX x.2
    · rw [hx] at h
      simp only [Bool.false_eq_true, if_false] at h ⊢
      obtain ⟨i, h1, h2, h3, h4⟩ := idxE_some r (k + 1) h
      refine ⟨i + 1, by rw [h1]; congr 1; omega, by simp; omega, ?_, by simpa using h4⟩
      rw [List.take_succ_cons]
      unfold filtE at h3 ⊢
      rw [List.filter_cons, hx]
      simp only [Bool.not_false, if_true]
      rw [h3]
    · exact ⟨0, by simp, by simp, rfl, x, rfl, hx⟩
theorem edrop_cons {l : List Le} {k : Nat} {x : Le} (h : l[k]? = some x) : l.drop k = x :: l.drop (k + 1) := by
  obtain ⟨h1, h2⟩ := List.getElem?_eq_some_iff.1 h
  rw [List.drop_eq_getElem_cons h1, h2]
theorem evs_length (L : List Le) : (evs L).length = L.length * 4 := by
  induction L with
  | nil => rfl
  | cons p r ih => simp only [evs, evO, List.flatMap_cons, List.length_append, List.length_cons, List.length_nil] at ih ⊢; omega
theorem evs_take (L : List Le) (j : Nat) : (evs L).take (j * 4) = evs (L.take j) := by
  induction L generalizing j with
  | nil => simp [evs]
  | cons p r ih =>
    cases j with
    | zero => simp [evs]
    | succ j =>
      have e : evs (p :: r) = evO p.1 p.2 ++ evs r := by simp [evs]
      have hl : (evO p.1 p.2).length = 4 := rfl
      rw [e, List.take_succ_cons, show evs (p :: r.take j) = evO p.1 p.2 ++ evs (r.take j) by simp [evs], ← ih j, List.take_append, hl, List.take_of_length_le (by rw [hl]; omega)]
      congr 2
      omega
theorem evs_put (x : Le) : ∀ (L : List Le) (i : Nat), i < L.length → evs (L.set i x) = ((((evs L).set (i * 4) (.int .i64 x.2.1.1)).set (i * 4 + 1) x.1).set (i * 4 + 2) (.int .i64 x.2.2.1)).set (i * 4 + 3) (.int .i64 x.2.2.2)
  | q :: r, 0, h => by simp [evs, evO]
  | q :: r, i + 1, h => by
    have ih := evs_put x r i (by simpa using h)
    have e : evs (q :: r) = evO q.1 q.2 ++ evs r := by simp [evs]
    have hl : (evO q.1 q.2).length = 4 := rfl
    rw [List.set_cons_succ, show evs (q :: r.set i x) = evO q.1 q.2 ++ evs (r.set i x) by simp [evs], ih, e]
    rw [List.set_append_right _ _ (by rw [hl]; omega), List.set_append_right _ _ (by rw [hl]; omega), List.set_append_right _ _ (by rw [hl]; omega), List.set_append_right _ _ (by rw [hl]; omega), hl]
    rw [show (i + 1) * 4 - 4 = i * 4 by omega, show (i + 1) * 4 + 1 - 4 = i * 4 + 1 by omega, show (i + 1) * 4 + 2 - 4 = i * 4 + 2 by omega, show (i + 1) * 4 + 3 - 4 = i * 4 + 3 by omega]
set_option maxHeartbeats 1000000 in
theorem foldNone_c (a b : Int) (w : World) : Calls Try.prog 53 #[.agg #[.int .i64 a, .int .i64 b]] w fun e w' => e = .returned (.bool (decide (a = 0 ∧ b = 0))) ∧ Ext w w' := by
  by_cases ha : a = 0
  · subst ha
    by_cases hb : b = 0
    · subst hb
      go_enter Try.func53, Try.ntmps53
      go_wp2_with fail
      go_returns
      exact ⟨by simp, (Ext.refl w).alloc _⟩
    · have b0 : (b == 0) = false := by simp [hb]
      have b1 : decide (b = 0) = false := by simp [hb]
      go_enter Try.func53, Try.ntmps53
      go_wp2_with fail
      go_returns
      exact ⟨by simp [hb], (Ext.refl w).alloc _⟩
  · have a0 : (a == 0) = false := by simp [ha]
    have a1 : decide (a = 0) = false := by simp [ha]
    go_enter Try.func53, Try.ntmps53
    go_wp2_with fail
    go_returns
    exact ⟨by simp [ha], (Ext.refl w).alloc _⟩
set_option maxHeartbeats 1000000 in
theorem isCancelled_c (UA : Option Addr) (ul uc : Nat) (x : Ex) (w : World) : Calls Try.prog 31 #[evV (.slice UA ul uc) x] w fun e w' => e = .returned (.bool (goneX x)) ∧ Ext w w' := by
  obtain ⟨⟨xi, xr⟩, x1, x2⟩ := x
  have hn := hide (fun w => foldNone_c x1 x2 w)
  obtain ⟨R, hR⟩ : ∃ R, R = goneX ((xi, xr), (x1, x2)) := ⟨_, rfl⟩
  rw [← hR]
  unfold goneX at hR
  simp only at hR
  rw [← hR] at hn
  replace hR := hide hR
  go_enter Try.func31, Try.ntmps31
  go_wp2_with (go_at_call 53; first | ((with_reducible refine seq_gw' (hn.out _) ?_); intro g) | ((with_reducible refine seq_gw (hn.out _) ?_); intro g))
  go_returns
  exact ⟨rfl, ((Ext.refl w).alloc _).trans g.grown⟩
/-- An event's cells. -/
theorem own_evat {w : World} {base : Nat} {v : Value} {L : List Le} (h : OwnEx w base v L) {k : Nat} {p : Le} (hp : L[k]? = some p) : ∃ g cap PA pc, v = .slice (some ⟨g, 0, none⟩) L.length cap ∧ base ≤ g ∧ g < w.heap.size ∧ p.1 = .slice PA p.2.1.2.length pc ∧ w.cell? ⟨g, k * 4, none⟩ = some (.int .i64 p.2.1.1) ∧ w.cell? ⟨g, k * 4 + 1, none⟩ = some p.1 ∧ w.cell? ⟨g, k * 4 + 2, none⟩ = some (.int .i64 p.2.2.1) ∧ w.cell? ⟨g, k * 4 + 3, none⟩ = some (.int .i64 p.2.2.2) := by
  have hk : k < L.length := (List.getElem?_eq_some_iff.1 hp).1
  obtain ⟨PA, pc, e⟩ := rwo_val (h.2 p (List.mem_of_getElem? hp))
  rcases h.1.2 with ⟨-, h2⟩ | ⟨g, cap, cur, rfl, hb, hg, -⟩
  · omega
  · have c0 := h.1.cells (g := g) rfl (k * 4 + 0) _ (evs_get L k p hp 0 _ rfl)
    have c1 := h.1.cells (g := g) rfl (k * 4 + 1) _ (evs_get L k p hp 1 _ rfl)
    have c2 := h.1.cells (g := g) rfl (k * 4 + 2) _ (evs_get L k p hp 2 _ rfl)
    have c3 := h.1.cells (g := g) rfl (k * 4 + 3) _ (evs_get L k p hp 3 _ rfl)
    rw [add_plain, Nat.zero_add] at c0 c1 c2 c3
    exact ⟨g, cap, PA, pc, rfl, hb, block_lt_of_cell c0, e, c0, c1, c2, c3⟩
set_option maxHeartbeats 4000000 in
set_option maxRecDepth 100000 in
theorem evtIndex_c (L : List Le) (base : Nat) (v : Value) (w : World) (h : OwnEx w base v L) (hn : L.length ≤ 200000) : Calls Try.prog 52 #[v, .func (.func 31) #[] #[]] w fun e w' => e = .returned (.int .i64 (idxE 0 L)) ∧ Ext w w' := by
  obtain ⟨A, cap, rfl⟩ := h.form
  replace h := hide h
  obtain ⟨R, hR⟩ : ∃ R, R = idxE 0 L := ⟨_, rfl⟩
  rw [← hR]
  replace hR := hide hR
  go_enter Try.func52, Try.ntmps52
  go_wp2_with fail
  go_loopg [8] L.length (fun gh i wr => ∃ (k : Nat), i = .int .i64 k ∧ k + gh = L.length ∧ Hid (R = idxE k (L.drop k)) ∧ Ext w wr)
  case atStart => exact ⟨0, rfl, by omega, by simpa using hR, Ext.refl w⟩
  case round =>
    obtain ⟨k, rfl, hk, hRk, hX⟩ := hrel
    clear hR
    by_cases hlt : k < L.length
    · obtain ⟨x, hx⟩ : ∃ x, L[k]? = some x := ⟨_, List.getElem?_eq_getElem hlt⟩
      obtain ⟨g, cap', PA, pc, e1, -, hgl, e2, c0, c1, c2, c3⟩ := own_evat (h.out.ext hX) hx
      cases e1
      haveI : In g wr := ⟨hgl⟩
      have hin := hide (fun w => isCancelled_c PA x.2.1.2.length pc x.2 w)
      have hR2 := hRk.out
      rw [edrop_cons hx] at hR2
      simp only [idxE] at hR2
      replace hR2 := hide hR2
      obtain ⟨xv, ⟨xi, xr⟩, x1, x2⟩ := x
      simp only at e2 c0 c1 c2 c3 hin
      subst e2
      have hltI : (k : Int) < L.length := by omega
      clear hx hRk
      cases hmx : goneX ((xi, xr), (x1, x2))
      · simp only [hmx] at hin hR2
        replace hmx := hide hmx
        go_wp2_with (go_at_call 31; first | ((with_reducible refine seq_gw (hin.out _) ?_); intro g2) | ((with_reducible refine seq_gw' (hin.out _) ?_); intro g2))
        go_roundg (L.length - (k + 1))
        case measure => omega
        case rel => exact ⟨k + 1, by go_num, by omega, (by show _ = _; simpa using hR2.out), hX.trans g2.grown⟩
      · simp only [hmx] at hin hR2
        replace hmx := hide hmx
        go_wp2_with (go_at_call 31; first | ((with_reducible refine seq_gw (hin.out _) ?_); intro g2) | ((with_reducible refine seq_gw' (hin.out _) ?_); intro g2))
        go_returns
        exact ⟨by first | (rw [hR2.out]; simp; done) | (rw [hR2.out]; rfl), hX.trans g2.grown⟩
    · have hk' : k = L.length := by omega
      have hge : (L.length : Int) ≤ k := by omega
      have hRn : Hid (R = -1) := by show _ = _; rw [hRk.out, hk', List.drop_length]; rfl
      clear hRk h
      go_wp2_with fail
      go_returns
      exact ⟨by rw [hRn.out]; rfl, hX⟩
end Go.Proofs.Ytkfdkjjocdbolaa
set_option linter.unusedVariables false
set_option linter.unusedSimpArgs false
namespace Go.Proofs.Ytkfdkjjocdbolaa
open Go.RowKit
attribute [local go_sem] GW.cell GW.frozen In.eq_true In.le_true In.ne In.ne' In.ne_add In.ne_add' In.lt_add Upto.le_true Upto.le_add Upto.lt_add
theorem fr_setCells {W : World} {g : Nat} : ∀ (vs : List Value) (o : Nat) (w : World), Fr [g] W w → Fr [g] W (w.setCells g o vs)
  | [], _, _, h => h
  | v :: r, o, w, h => fr_setCells r (o + 1) _ (h.setCell ⟨g, o, none⟩ v (.inl (by simp)))
set_option maxHeartbeats 8000000 in
set_option maxRecDepth 100000 in
theorem evtDel_c (W0 : World) (l : List Le) (v : Value) (w : World) (h : OwnEx w W0.heap.size v l) (hX0 : Ext W0 w) (hn : l.length ≤ 200000) : Calls Try.prog 30 #[v, .func (.func 31) #[] #[]] w fun e w' =>
    ∃ v', e = .returned v' ∧ OwnEx w' W0.heap.size v' (filtE l) ∧ Ext W0 w' := by
  have hidx := hide (evtIndex_c l _ v w h hn)
  by_cases hi : idxE 0 l = -1
  · rw [hi] at hidx
    have hf := hide (idxE_none l 0 hi)
    obtain ⟨A, cap, rfl⟩ := h.form
    replace h := hide h
    clear hi
    go_enter Try.func30, Try.ntmps30
    go_wp2_with (go_at_call 52; (with_reducible refine seq_gw hidx.out ?_); intro g)
    go_returns
    rw [hf.out]
    exact ⟨_, rfl, h.out.ext g.grown, hX0.trans g.grown⟩
  · obtain ⟨i0, h1, h2, h3, x0, h4, h5⟩ := idxE_some l 0 hi
    rw [h1, Nat.zero_add] at hidx
    obtain ⟨g, cap, PA0, pc0, rfl, hgB, hgl, -⟩ := own_evat h h4
    have hob : g ∈ ob (.slice (some ⟨g, 0, none⟩) l.length cap) := by simp [ob, Value.ownBlock]
    have hNv := hide (own_nt h.1 (e := 54) (by decide) g hob)
    have hrow := hide h.2
    have hform := hide (fun p (hp : p ∈ l) => rwo_val (h.2 p hp))
    have hstart : Hid (filtE (l.take (i0 + 1)) = l.take i0) := by show _ = _; rw [filtE_next h4, if_pos h5, h3]
    have hnI : (l.length : Int) ≤ 200000 := by omega
    have hi0b : ((i0 : Int) == -1) = false := by rw [beq_eq_false_iff_ne]; omega
    obtain ⟨R, hR⟩ : ∃ R, R = filtE l := ⟨_, rfl⟩
    rw [← hR]
    have hcap : l.length ≤ cap ∧ cap ≤ 9223372036854775807 := by
      rcases h.1.2 with ⟨h', _⟩ | ⟨g', cap', cur, h', hb, hg, hnc, hcm, hcs, htake⟩
      · simp at h'
      · simp only [Value.slice.injEq] at h'
        obtain ⟨_, _, rfl⟩ := h'
        unfold maxLen at hcm
        exact ⟨hnc, by omega⟩
    obtain ⟨hc1, hc2⟩ := hcap
    have h0 := hide h.1
    replace hR := hide hR
    clear hi h1 h3 h4 h5 h
    obtain ⟨n, hln⟩ : ∃ n, n = l.length := ⟨_, rfl⟩
    have hlnh := hide hln
    rw [← hln] at hidx h2 hnI hc1 ⊢
    clear hln hn hob
    go_enter Try.func30, Try.ntmps30
    go_wp2_with (go_at_call 52; (with_reducible refine seq_gw hidx.out ?_); intro q)
    have hstartO : Hid (q.val.ownsRow W0.heap.size 48 4 (.slice (some ⟨g, 0, none⟩) n cap) n (evs l)) := by have := own_ext h0.out q.grown; rw [← hlnh.out] at this; exact this
    have hFq := hide (Fr.of_ext (S := [g]) q.grown)
    go_loopg [5, 6] (n - (i0 + 1)) (fun gh u i wr => ∃ (j k : Nat) (cur : List Le), u = .int .i64 j ∧ i = .int .i64 k ∧ k + gh = n ∧ j < k ∧ Hid (cur.length = n) ∧ Hid (wr.ownsRow W0.heap.size 48 4 (.slice (some ⟨g, 0, none⟩) n cap) n (evs cur)) ∧ Hid (cur.take j = filtE (l.take k)) ∧ Hid (cur.drop k = l.drop k) ∧ Hid (Fr [g] w wr) ∧ Ext W0 wr)
    case atStart => exact ⟨i0, i0 + 1, l, rfl, by go_num, by omega, by omega, hlnh.out.symm, hstartO, hstart.out.symm, rfl, hFq, hX0.trans q.grown⟩
    case round =>
      clear hidx hstartO hFq
      obtain ⟨j, k, cur, rfl, rfl, hk, hjk, hcl, ho, htk, hdr, hFr, hX⟩ := hrel
      have hgw : g < wr.heap.size := (World.ownsRow.lt ho.out g rfl).2
      haveI : In g wr := ⟨hgw⟩
      by_cases hlt : k < n
      · obtain ⟨x, hx⟩ : ∃ x, l[k]? = some x := ⟨_, List.getElem?_eq_getElem (by have := hlnh.out; omega)⟩
        have hcx : cur[k]? = some x := by
          have e1 : (cur.drop k)[0]? = (l.drop k)[0]? := by rw [hdr.out]
          simpa [hx] using e1
        obtain ⟨PA, pc, epv⟩ := hform.out x (List.mem_of_getElem? hx)
        have y0 := (World.ownsRow.cellAt ho.out (k * 4 + 0) (by omega)).trans (evs_get cur k x hcx 0 _ rfl)
        have y1 := (World.ownsRow.cellAt ho.out (k * 4 + 1) (by omega)).trans (evs_get cur k x hcx 1 _ rfl)
        have y2 := (World.ownsRow.cellAt ho.out (k * 4 + 2) (by omega)).trans (evs_get cur k x hcx 2 _ rfl)
        have y3 := (World.ownsRow.cellAt ho.out (k * 4 + 3) (by omega)).trans (evs_get cur k x hcx 3 _ rfl)
        rw [Nat.add_zero] at y0
        have some_at : ∀ m, m < n * 4 → ∃ u, wr.cell? ⟨g, m, none⟩ = some u := fun m hm => ⟨_, (World.ownsRow.cellAt ho.out m hm).trans (List.getElem?_eq_getElem (by rw [evs_length, hcl.out]; exact hm))⟩
        obtain ⟨u0, s0⟩ := some_at (j * 4) (by omega)
        obtain ⟨u1, s1⟩ := some_at (j * 4 + 1) (by omega)
        obtain ⟨u2, s2⟩ := some_at (j * 4 + 2) (by omega)
        obtain ⟨u3, s3⟩ := some_at (j * 4 + 3) (by omega)
        have f0 := World.ownsRow.frozenAt ho.out (j * 4)
        have f1 := World.ownsRow.frozenAt ho.out (j * 4 + 1)
        have f2 := World.ownsRow.frozenAt ho.out (j * 4 + 2)
        have f3 := World.ownsRow.frozenAt ho.out (j * 4 + 3)
        have hdel := hide (fun w => isCancelled_c PA x.2.1.2.length pc x.2 w)
        have hft := filtE_next hx
        have hdr' : Hid (cur.drop (k + 1) = l.drop (k + 1)) := by
          show _ = _
          have := hdr.out
          rw [edrop_cons hx, edrop_cons hcx] at this
          exact (List.cons.inj this).2
        obtain ⟨xv, ⟨xi, xr⟩, x1, x2⟩ := x
        simp only at y0 y1 y2 y3 epv hdel
        subst epv
        have hjI : (j : Int) < n := by omega
        have hkI : (k : Int) < n := by omega
        clear some_at hx
        cases hd : goneX ((xi, xr), (x1, x2))
        · simp only [hd] at hdel hft
          rw [if_neg (by decide)] at hft
          replace hft := hide hft
          replace hd := hide hd
          clear hcx
          go_wp2_with (go_at_call 31; first | ((with_reducible refine seq_gw (hdel.out _) ?_); intro q7) | ((with_reducible refine seq_gw' (hdel.out _) ?_); intro q7))
          go_roundg (n - (k + 1))
          case measure => omega
          case rel =>
            have hX7 := ((Ext.refl wr).alloc (.cells #[.int .i64 xi, .slice PA xr.length pc, .int .i64 x1, .int .i64 x2] 48)).trans q7.grown
            have o1 := (World.ownsRow.stored (own_ext ho.out hX7) (j * 4) (.int .i64 xi)).1
            have o2 := (World.ownsRow.stored o1 (j * 4 + 1) (.slice PA xr.length pc)).1
            have o3 := (World.ownsRow.stored o2 (j * 4 + 2) (.int .i64 x1)).1
            have o4 := (World.ownsRow.stored o3 (j * 4 + 3) (.int .i64 x2)).1
            rw [← evs_put (.slice PA xr.length pc, ((xi, xr), (x1, x2))) cur j (by rw [hcl.out]; omega)] at o4
            refine ⟨j + 1, k + 1, cur.set j (.slice PA xr.length pc, ((xi, xr), (x1, x2))), by go_num, by go_num, by omega, by omega, by rw [List.length_set]; exact hcl.out, o4, ?_, ?_, (((((hFr.out.trans (Fr.of_ext hX7)).setCell _ _ (.inl (by simp))).setCell _ _ (.inl (by simp))).setCell _ _ (.inl (by simp))).setCell _ _ (.inl (by simp))), ((((hX.trans hX7).setCell hgB _).setCell hgB _).setCell hgB _).setCell hgB _⟩
            · show _ = _
              rw [hft.out, ← htk.out, List.take_add_one, List.take_set_of_le (Nat.le_refl _)]
              simp [show j < cur.length by rw [hcl.out]; omega]
            · show _ = _
              rw [List.drop_set_of_lt (by omega)]
              exact hdr'.out
        · simp only [hd] at hdel hft
          rw [if_pos trivial] at hft
          replace hft := hide hft
          replace hd := hide hd
          clear hcx s0 s1 s2 s3 f0 f1 f2 f3
          go_wp2_with (go_at_call 31; first | ((with_reducible refine seq_gw (hdel.out _) ?_); intro q7) | ((with_reducible refine seq_gw' (hdel.out _) ?_); intro q7))
          go_roundg (n - (k + 1))
          case measure => omega
          case rel =>
            have hX7 := ((Ext.refl wr).alloc (.cells #[.int .i64 xi, .slice PA xr.length pc, .int .i64 x1, .int .i64 x2] 48)).trans q7.grown
            exact ⟨j, k + 1, cur, rfl, by go_num, by omega, by omega, hcl, own_ext ho.out hX7, by show _ = _; rw [hft.out]; exact htk.out, hdr', hFr.out.trans (Fr.of_ext hX7), hX.trans hX7⟩
      · have hk' : k = n := by omega
        have hge : (n : Int) ≤ k := by omega
        have hR2 : Hid (R = cur.take j) := by show _ = _; have := htk.out; rw [hk', hlnh.out, List.take_length] at this; rw [hR.out]; exact this.symm
        have hjn : j < n := by omega
        have hjI : (j : Int) ≤ n := by omega
        have hcl2 : ∀ ty, (Builtin.clear_ #[45] ty #[.slice (some ⟨g, j * 4, none⟩) (n - j) (cap - j)]).run Try.prog wr = .ok (.tuple #[]) (wr.setCells g (j * 4) (Builtin.zeroCells (Value.agg #[.int .i64 0, .slice none 0 0, .int .i64 0, .int .i64 0]).cells (n - j)).toList) := fun ty => by
          have hzl : (Builtin.zeroCells (Value.agg #[.int .i64 0, .slice none 0 0, .int .i64 0, .int .i64 0]).cells (n - j)).toList.length = (n - j) * 4 := by rw [Array.length_toList, size_zeroCells]; rfl
          refine run_clear_cells wr _ _ ty _ _ Try.underlying45 (fun _ => by kernel_rfl) g (j * 4) (n - j) (cap - j) (by omega) rfl ?_ (fun i hi => ?_) (fun i hi => ?_)
          · intro u hu
            have hu' := Array.mem_toList_iff.1 hu
            have hall : ∀ u ∈ Builtin.zeroCells (Value.agg #[.int .i64 0, .slice none 0 0, .int .i64 0, .int .i64 0]).cells (n - j), u = .int .i64 0 ∨ u = .slice none 0 0 := by
              intro u hu
              simp only [Builtin.zeroCells] at hu
              simp at hu
              obtain ⟨i, _, rfl⟩ := hu
              have : i % 4 = 0 ∨ i % 4 = 1 ∨ i % 4 = 2 ∨ i % 4 = 3 := by omega
              rcases this with e | e | e | e <;> simp [Value.cells, e]
            rcases hall u hu' with rfl | rfl <;> rfl
          · rw [hzl] at hi
            rw [World.ownsRow.cellAt ho.out (j * 4 + i) (by omega), List.getElem?_eq_getElem (by rw [evs_length, hcl.out]; omega)]; rfl
          · exact World.ownsRow.frozenAt ho.out _
        have hown : Hid ((wr.setCells g (j * 4) (Builtin.zeroCells (Value.agg #[.int .i64 0, .slice none 0 0, .int .i64 0, .int .i64 0]).cells (n - j)).toList).ownsRow W0.heap.size 48 4 (.slice (some ⟨g, 0, none⟩) j cap) j (evs (cur.take j))) := by
          have := own_take ho.out (i := j) (by omega)
          rw [evs_take] at this
          exact own_setCells (w0 := w) _ _ _ this (Nat.le_refl _)
        have hxx : Hid (Ext W0 (wr.setCells g (j * 4) (Builtin.zeroCells (Value.agg #[.int .i64 0, .slice none 0 0, .int .i64 0, .int .i64 0]).cells (n - j)).toList)) := ext_setCells hgB _ _ _ hX
        have hfz : Hid (Fr [g] w (wr.setCells g (j * 4) (Builtin.zeroCells (Value.agg #[.int .i64 0, .slice none 0 0, .int .i64 0, .int .i64 0]).cells (n - j)).toList)) := fr_setCells _ _ _ hFr.out
        generalize wr.setCells g (j * 4) (Builtin.zeroCells (Value.agg #[.int .i64 0, .slice none 0 0, .int .i64 0, .int .i64 0]).cells (n - j)).toList = wz at *
        have hjl : Hid ((cur.take j).length = j) := by show _ = _; rw [List.length_take, hcl.out]; omega
        have hsub : Hid (∀ p ∈ cur.take j, p ∈ l) := fun p hp => by
          rw [htk.out] at hp
          exact List.mem_of_mem_take (List.mem_filter.1 hp).1
        have hjc : j < cap := by omega
        have hjcI : ¬ j = cap := by omega
        replace hk' := hide hk'
        clear hcl htk hdr hR ho
        go_wp2_with fail
        go_returns
        rw [hR2.out]
        refine ⟨_, rfl, ⟨?_, fun p hp => ?_⟩, hxx.out⟩
        · rw [hjl.out]
          exact hown.out
        · exact (hrow.out p (hsub.out p hp)).stay hfz.out (by intro b hb; rw [List.mem_singleton.1 hb]; exact hNv.out)
end Go.Proofs.Ytkfdkjjocdbolaa
set_option linter.unusedVariables false
set_option linter.unusedSimpArgs false
namespace Go.Proofs.Ytkfdkjjocdbolaa
open Go.RowKit
attribute [local go_sem] GW.cell GW.frozen In.eq_true In.le_true In.ne In.ne' In.ne_add In.ne_add' In.lt_add Upto.le_true Upto.le_add Upto.lt_add
theorem run_inv : ∀ (l : List PM) (s : StD), (∃ T, InvF T s) → ∃ T, InvF T (runS s l)
  | [], _, h => h
  | m :: r, s, ⟨T, h⟩ => run_inv r (stp s m) ⟨_, h.step m (.slice none 0 0)⟩
theorem runS_inv (l : List PM) : ∃ T, InvF T (runS (0, []) l) := run_inv l _ ⟨[], InvF.nil⟩
theorem mayR8 {r : List Vl} (h : mayR r = true) : r.length ≤ 8 := (mayR_iff.1 h).1
theorem chg_r8 {T : List Ke} {S : StD} (hI : InvF T S) (m : PM) : (chg S m).2.1.length ≤ 8 := by
  unfold chg
  split
  · rename_i h0
    have hz := h0
    rw [hI.chk] at hz
    obtain ⟨z1, -⟩ := chkO_zero hz
    rw [hI.change m h0]
    by_cases h3 : m.1.1 = 3
    · rw [if_pos h3]; exact Nat.zero_le _
    · rw [if_neg h3]
      by_cases h1 : m.1.1 = 1
      · rw [if_pos h1]
        unfold mkM at z1
        rw [h1] at z1
        exact mayR8 (mchk_one z1).1
      · rw [if_neg h1]
        obtain ⟨h1', h2'⟩ := hI.free m.1.2.1
        cases hp : atK (freeK T S.1 m.1.2.1) m.1.2.1 with
        | none => exact Nat.zero_le _
        | some p =>
          obtain ⟨g1, g2⟩ := h1'.known p (atK_some hp).1 (h2' p hp)
          exact mayR8 (hI.evs _ (List.mem_of_getElem? g2)).2.2.2.1
  · exact Nat.zero_le _
theorem pms_at {L : List Vm} {k : Nat} {p : Vm} (h : L[k]? = some p) : (pms L)[k]? = some p.2 := by unfold pms; rw [List.getElem?_map, h]; rfl
theorem pms_len (L : List Vm) (k : Nat) : ((pms L).take k).length ≤ L.length := by rw [List.length_take, pms, List.length_map]; omega
section
variable (L : List Vm) (v : Value) (w : World) (hL : Mw w [] v L) (hin : ∀ p ∈ L, inM p.2) (hlen : L.length ≤ 100000)
include hL hin hlen
set_option maxHeartbeats 4000000 in
set_option maxRecDepth 100000 in
theorem answers_c : Calls Try.prog 8 #[v] w fun e w' => ∃ sv, e = .returned sv ∧ w'.ownsRow w.heap.size 34 1 sv (runE (0, []) (pms L)).length (ns (runE (0, []) (pms L))) ∧ Ext w w' := by
  have hpr := hide (fun w' (hX : Ext w w') (h0 : BxA w' w.heap.size w.heap.size (runE (0, []) ((pms L).take 0))) => processA_c w L v w.heap.size (fun k w' => BxA w' w.heap.size w.heap.size (runE (0, []) ((pms L).take k))) hL hin hlen w' hX h0 (fun k w1 w2 h hx => h.ext hx) (fun k s mb w1 w2 h hst hF => h.stay hst hF) (fun k p u w1 s mb hp hu hI hX1 hst => by
    obtain ⟨UA, uc, eu⟩ := rw_val hu
    obtain ⟨PA, pc, ep⟩ := rw_val (hL.2 p (List.mem_of_getElem? hp))
    have hl := runE_len ((pms L).take k) (0, [])
    have := pms_len L k
    refine (ansPut_c w w.heap.size s mb _ p.2.1.1 p.2.1.2.1 p.2.1.2.2.1 p.2.1.2.2.2 u p.1 PA UA _ pc _ uc ep eu _ _ (by omega) w1 hI hX1 hst).mono ?_
    rintro e w2 ⟨h1, h2, h3⟩
    rw [runE_take (pms_at hp)]
    exact ⟨h1, h2, h3⟩))
  obtain ⟨LA, lc, rfl, -, -, -⟩ := mw_form hL
  have h00 := hide (show BxA (w.alloc (.cells #[.slice none 0 0] 37)) w.heap.size w.heap.size (runE (0, []) ((pms L).take 0)) from ⟨.slice none 0 0, Ob.new w 37 [.slice none 0 0], World.ownsRow_nil _ _ _ _, Nat.le_refl _⟩)
  clear hL hin
  go_enter Try.func8, Try.ntmps8
  go_wp2_with (go_at_call 18; (refine (hpr.out _ ((Ext.refl w).alloc _) h00.out).mono ?_; rintro ee w2 ⟨rfl, ⟨sv, hO, ho, hB⟩, hX2⟩; obtain ⟨A2, c2, e2⟩ := own_form ho; subst e2; have q0 := hO.cell 0 rfl; have ql := hO.lt; haveI : In w.heap.size w2 := ⟨ql⟩; replace ho := hide ho; replace hX2 := hide hX2; clear hO))
  go_returns
  refine ⟨_, rfl, ?_, hX2.out⟩
  have h1 := ho.out
  rw [show (pms L).take L.length = pms L by rw [List.take_of_length_le]; simp [pms]] at h1 ⊢
  exact h1
set_option maxHeartbeats 4000000 in
set_option maxRecDepth 100000 in
theorem clock_c : Calls Try.prog 13 #[v] w fun e w' => e = .returned (.int .i64 (runS (0, []) (pms L)).1) ∧ Ext w w' := by
  have hpr := hide (fun w' (hX : Ext w w') (h0 : BxC w' w.heap.size w.heap.size (runS (0, []) ((pms L).take 0)).1) => processC_c w L v w.heap.size (fun k w' => BxC w' w.heap.size w.heap.size (runS (0, []) ((pms L).take k)).1) hL hin hlen w' hX h0 (fun k w1 w2 h hx => h.ext hx) (fun k s mb w1 w2 h hst hF => h.stay hst hF) (fun k p u w1 s mb hp hu hI hX1 hst => by
    obtain ⟨UA, uc, eu⟩ := rw_val hu
    obtain ⟨PA, pc, ep⟩ := rw_val (hL.2 p (List.mem_of_getElem? hp))
    refine (clkPut_c w w.heap.size s mb _ p.2.1.1 p.2.1.2.1 p.2.1.2.2.1 p.2.1.2.2.2 u p.1 PA UA _ pc _ uc ep eu _ _ w1 hI hX1 hst).mono ?_
    rintro e w2 ⟨h1, h2, h3⟩
    rw [runS_take (pms_at hp), stp_clk]
    exact ⟨h1, h2, h3⟩))
  obtain ⟨LA, lc, rfl, -, -, -⟩ := mw_form hL
  have h00 := hide (show BxC (w.alloc (.cells #[.int .i64 0] 3)) w.heap.size w.heap.size (runS (0, []) ((pms L).take 0)).1 from ⟨Ob.new w 3 [.int .i64 0], Nat.le_refl _⟩)
  obtain ⟨R, hR⟩ : ∃ R, R = (runS (0, []) (pms L)).1 := ⟨_, rfl⟩
  rw [← hR]
  have hR2 : (runS (0, []) ((pms L).take L.length)).1 = R := by rw [hR, show (pms L).take L.length = pms L by rw [List.take_of_length_le]; simp [pms]]
  rw [hR2] at hpr
  replace hR := hide hR
  clear hL hin hR2
  go_enter Try.func13, Try.ntmps13
  go_wp2_with (go_at_call 18; (refine (hpr.out _ ((Ext.refl w).alloc _) h00.out).mono ?_; rintro ee w2 ⟨rfl, ⟨hO, hB⟩, hX2⟩; have q0 := hO.cell 0 rfl; have ql := hO.lt; haveI : In w.heap.size w2 := ⟨ql⟩; replace hX2 := hide hX2; clear hO))
  go_returns
  exact ⟨rfl, hX2.out⟩
set_option maxHeartbeats 4000000 in
set_option maxRecDepth 100000 in
theorem changes_c : Calls Try.prog 24 #[v] w fun e w' => ∃ sv M, e = .returned sv ∧ OwnCh w' w.heap.size sv M ∧ M.map Prod.snd = runC (0, []) (pms L) ∧ Ext w w' := by
  have hpr := hide (fun w' (hX : Ext w w') (h0 : ∃ M, BxH w' w.heap.size w.heap.size M ∧ M.map Prod.snd = runC (0, []) ((pms L).take 0)) => processH_c w L v w.heap.size (fun k w' => ∃ M, BxH w' w.heap.size w.heap.size M ∧ M.map Prod.snd = runC (0, []) ((pms L).take k)) hL hin hlen w' hX h0 (fun k w1 w2 h hx => by obtain ⟨M, h1, h2⟩ := h; exact ⟨M, h1.ext hx, h2⟩) (fun k s mb w1 w2 h hst hF => by obtain ⟨M, h1, h2⟩ := h; exact ⟨M, h1.stay hst hF, h2⟩) (fun k p u w1 s mb hp hu hI hX1 hst => by
    obtain ⟨M, h1, h2⟩ := hI
    obtain ⟨PA, pc, ep⟩ := rw_val (hL.2 p (List.mem_of_getElem? hp))
    obtain ⟨T, hT⟩ := runS_inv ((pms L).take k)
    have hl := congrArg List.length h2
    rw [List.length_map] at hl
    have hl2 := runC_len ((pms L).take k) (0, [])
    have := pms_len L k
    refine (chgPut_c w w.heap.size s mb M p.2.1.1 p.2.1.2.1 p.2.1.2.2.1 p.2.1.2.2.2 u p.1 PA _ pc ep _ hu (chg_r8 hT p.2) _ (by omega) w1 h1 hX1 hst).mono ?_
    rintro e w2 ⟨k1, ⟨M', k2, k3⟩, k4⟩
    refine ⟨k1, ⟨M', k2, ?_⟩, k4⟩
    rw [runC_take (pms_at hp), k3, h2, chg_ser hT]))
  obtain ⟨LA, lc, rfl, -, -, -⟩ := mw_form hL
  have h00 := hide (show ∃ M, BxH (w.alloc (.cells #[.slice none 0 0] 72)) w.heap.size w.heap.size M ∧ M.map Prod.snd = runC (0, []) ((pms L).take 0) from ⟨[], ⟨.slice none 0 0, Ob.new w 72 [.slice none 0 0], OwnX.nil _ _, Nat.le_refl _⟩, rfl⟩)
  clear hL hin
  go_enter Try.func24, Try.ntmps24
  go_wp2_with (go_at_call 18; (refine (hpr.out _ ((Ext.refl w).alloc _) h00.out).mono ?_; rintro ee w2 ⟨rfl, ⟨M, ⟨sv, hO, ho, hB⟩, hM⟩, hX2⟩; obtain ⟨A2, c2, e2⟩ := ho.form; subst e2; have q0 := hO.cell 0 rfl; have ql := hO.lt; haveI : In w.heap.size w2 := ⟨ql⟩; replace ho := hide ho; replace hM := hide hM; replace hX2 := hide hX2; clear hO))
  go_returns
  exact ⟨_, M, rfl, ho.out, by rw [hM.out, show (pms L).take L.length = pms L by rw [List.take_of_length_le]; simp [pms]], hX2.out⟩
set_option maxHeartbeats 4000000 in
set_option maxRecDepth 100000 in
theorem events_c : Calls Try.prog 10 #[v] w fun e w' => ∃ sv M, e = .returned sv ∧ OwnEx w' w.heap.size sv M ∧ M.map Prod.snd = (exL (runS (0, []) (pms L)).2).filter (fun x => !goneX x) ∧ Ext w w' := by
  have hpr := hide (fun w' (hX : Ext w w') (h0 : ∃ M, BxE w' w.heap.size w.heap.size M ∧ M.map Prod.snd = exL (runS (0, []) ((pms L).take 0)).2) => processE_c w L v w.heap.size (fun k w' => ∃ M, BxE w' w.heap.size w.heap.size M ∧ M.map Prod.snd = exL (runS (0, []) ((pms L).take k)).2) hL hin hlen w' hX h0 (fun k w1 w2 h hx => by obtain ⟨M, h1, h2⟩ := h; exact ⟨M, h1.ext hx, h2⟩) (fun k s mb w1 w2 h hst hF => by obtain ⟨M, h1, h2⟩ := h; exact ⟨M, h1.stay hst hF, h2⟩) (fun k p u w1 s mb hp hu hI hX1 hst => by
    obtain ⟨M, h1, h2⟩ := hI
    obtain ⟨PA, pc, ep⟩ := rw_val (hL.2 p (List.mem_of_getElem? hp))
    obtain ⟨T, hT⟩ := runS_inv ((pms L).take k)
    have hl := congrArg List.length h2
    rw [List.length_map] at hl
    unfold exL at hl
    rw [List.length_map] at hl
    have hl2 := runS_len ((pms L).take k) (0, [])
    simp only [List.length_nil, Nat.zero_add] at hl2
    have := pms_len L k
    have hser := chg_ser hT p.2
    have hr8 := chg_r8 hT p.2
    have hx1 := ex_none hT p.2
    have hx2 := ex_ins hT p.2
    have hx3 := ex_ret hT p.2
    rw [runS_take (pms_at hp)]
    generalize runS (0, []) ((pms L).take k) = S at *
    obtain ⟨pv, ⟨pk, pi, pf, pt⟩, pl⟩ := p
    simp only at *
    generalize hC : chg S ((pk, pi, pf, pt), pl) = C at *
    obtain ⟨cs, cr, ⟨o1, o2⟩, n1, n2⟩ := C
    simp only at *
    cases hs : decide (0 < cs)
    · rw [hs] at hser
      refine (evtPut0_c w w.heap.size s mb M pk pi pf pt u pv PA _ pc ep (cs, cr, (o1, o2), (n1, n2)) hu hs _ w1 h1 hX1 hst).mono ?_
      rintro e w2 ⟨k1, k2, k4⟩
      exact ⟨k1, ⟨M, k2, by rw [hx1 hser]; exact h2⟩, k4⟩
    · rw [hs] at hser
      by_cases h1k : pk = 1
      · subst h1k
        refine (evtPut1_c w w.heap.size s mb M pi pf pt u pv PA _ pc ep cs cr o1 o2 n1 n2 hu hr8 hs _ (by omega) w1 h1 hX1 hst).mono ?_
        rintro e w2 ⟨k1, ⟨M', k2, k3⟩, k4⟩
        exact ⟨k1, ⟨M', k2, by rw [hx2 hser rfl, k3, h2]⟩, k4⟩
      · obtain ⟨x, g1, g2, g3⟩ := hx3 hser h1k
        have hM : ∃ q, M[cs - 1]? = some q ∧ q.2 = x := by
          have : (M.map Prod.snd)[cs - 1]? = some x := by rw [h2]; exact g2
          rw [List.getElem?_map] at this
          cases hq : M[cs - 1]? with
          | none => rw [hq] at this; cases this
          | some q => rw [hq] at this; exact ⟨q, rfl, Option.some.inj this⟩
        obtain ⟨q, hq, rfl⟩ := hM
        refine (evtPut2_c w w.heap.size s mb M pk pi pf pt h1k u pv PA _ pc ep cs cr o1 o2 n1 n2 hu hs q hq _ (by omega) w1 h1 hX1 hst).mono ?_
        rintro e w2 ⟨k1, ⟨M', k2, k3⟩, k4⟩
        exact ⟨k1, ⟨M', k2, by rw [g3, k3, h2]⟩, k4⟩))
  obtain ⟨LA, lc, rfl, -, -, -⟩ := mw_form hL
  have h00 := hide (show ∃ M, BxE (w.alloc (.cells #[.slice none 0 0] 45)) w.heap.size w.heap.size M ∧ M.map Prod.snd = exL (runS (0, []) ((pms L).take 0)).2 from ⟨[], ⟨.slice none 0 0, Ob.new w 45 [.slice none 0 0], OwnX.nil _ _, Nat.le_refl _⟩, rfl⟩)
  have hlL := hide (runS_len (pms L) (0, []))
  have hdel := hide (fun M sv w' (ho : OwnEx w' w.heap.size sv M) (hX : Ext w w') (hn : M.length ≤ 200000) => evtDel_c w M sv w' ho hX hn)
  clear hL hin
  go_enter Try.func10, Try.ntmps10
  go_wp2_with (first | (go_at_call 18; (refine (hpr.out _ ((Ext.refl w).alloc _) h00.out).mono ?_; rintro ee w2 ⟨rfl, ⟨M, ⟨sv, hO, ho, hB⟩, hM⟩, hX2⟩; have hdl := hide (hdel.out M sv w2 ho hX2 (by have h1 := congrArg List.length hM; have h2 := hlL.out; rw [show (pms L).take L.length = pms L by rw [List.take_of_length_le]; simp [pms]] at h1; unfold exL at h1; rw [List.length_map, List.length_map] at h1; simp only [List.length_nil, Nat.zero_add, pms, List.length_map] at h1 h2; omega)); obtain ⟨A2, c2, e2⟩ := ho.form; subst e2; have q0 := hO.cell 0 rfl; have ql := hO.lt; haveI : In w.heap.size w2 := ⟨ql⟩; replace hM := hide hM; clear hO ho hX2)) | (go_at_call 30; (refine hdl.out.mono ?_; rintro ee w3 ⟨v3, rfl, ho3, hX3⟩; obtain ⟨A3, c3, e3⟩ := ho3.form; subst e3; replace ho3 := hide ho3; replace hX3 := hide hX3)))
  go_returns
  refine ⟨_, filtE M, rfl, ho3.out, ?_, hX3.out⟩
  have h1 := hM.out
  rw [show (pms L).take L.length = pms L by rw [List.take_of_length_le]; simp [pms]] at h1
  rw [← h1]
  unfold filtE
  rw [List.filter_map]
  rfl
end
end Go.Proofs.Ytkfdkjjocdbolaa
