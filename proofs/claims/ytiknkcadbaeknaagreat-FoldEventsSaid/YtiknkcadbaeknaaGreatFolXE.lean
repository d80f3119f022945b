/-
  A helper of ours: no claim of its own. Layer 13 (fold): what is done with each message's result, by the code (Events).
-/
import Derived.Test.YtiknkcadbaeknaaGreatFolO
import Derived.Test.YtiknkcadbaeknaaGreatRowE
import Derived.Test.YtiknkcadbaeknaaGreatReg3
set_option linter.unusedVariables false
set_option linter.unusedSimpArgs false
namespace Go.Proofs.YtiknkcadbaeknaaGreat
open Go.RowKit
attribute [local go_sem] GW.cell GW.frozen In.eq_true In.le_true In.ne In.ne' In.ne_add In.ne_add' In.lt_add Upto.le_true Upto.le_add Upto.lt_add
/-- The box of the clock. -/
def BxC (w : World) (base B : Nat) (c : Int) : Prop := Ob w B 3 [.int .i64 c] ∧ base ≤ B
theorem BxC.ext {w w' : World} {base B : Nat} {c : Int} (h : BxC w base B c) (k : Ext w w') : BxC w' base B c := ⟨h.1.ext k, h.2⟩
theorem BxC.stay {w w' : World} {base B s mb : Nat} {c : Int} (h : BxC w base B c) (hst : StOk w s mb) (hF : Fr [s, mb] w w') : BxC w' base B c := by
  have hne := hst.ne_ob h.1 (by decide)
  exact ⟨h.1.fr hF (by simp only [List.mem_cons, List.not_mem_nil, or_false]; omega), h.2⟩
set_option maxHeartbeats 4000000 in
set_option maxRecDepth 100000 in
theorem clkPut_c (wA : World) (B s mb : Nat) (c0 : Int) (k i f t : Int) (u v : Value) (VA UA : Option Addr) (vl vc ul uc : Nat) (hv : v = .slice VA vl vc) (hu : u = .slice UA ul uc) (c : Ch) (e : Int) (w : World) (h : BxC w wA.heap.size B c0) (hX : Ext wA w) (hst : StOk w s mb) :
    Calls Tryz.prog 51 #[mg k i f t v, chV u c, .int .i64 e, .pointer (some ⟨B, 0, none⟩)] w fun r w' => r = .returned (.tuple #[]) ∧ BxC w' wA.heap.size B (if e = 0 ∧ k = 3 then f else c0) ∧ Ext wA w' ∧ w'.heap[s]? = w.heap[s]? ∧ w'.heap[mb]? = w.heap[mb]? := by
  obtain ⟨hO, hB⟩ := h
  subst hv; subst hu
  have hlt := hO.lt
  have q0 := hO.cell 0 rfl
  have z0 := hO.free 0
  haveI : In B w := ⟨hlt⟩
  have hne1 := hst.ne_ob hO (by decide)
  replace hO := hide hO
  by_cases he : e = 0
  · subst he
    by_cases hk : k = 3
    · subst hk
      rw [if_pos ⟨rfl, rfl⟩]
      go_enter Tryz.func51, Tryz.ntmps51
      go_wp2_with fail
      go_end0
      have hF : Fr [B] w (((w.setCell ⟨B, 0, none⟩ (.int .i64 f)).alloc (mO 3 i f t (.slice VA vl vc))).alloc (.cells (chO (.slice UA ul uc) c).toArray 44)) := (((Fr.refl [B] w).setCell ⟨B, 0, none⟩ (.int .i64 f) (.inl (by simp))).alloc _).alloc _
      exact ⟨rfl, ⟨((hO.out.set 0 _).alloc _).alloc _, hB⟩, put_done hF hX (by intro b hb; rw [List.mem_singleton.1 hb]; exact ⟨hB, hne1⟩) hst⟩
    · have k3 : (k == 3) = false := by simp [hk]
      rw [if_neg (fun h => hk h.2)]
      go_enter Tryz.func51, Tryz.ntmps51
      go_wp2_with fail
      go_end0
      have hXb := (Gn.ext (w := w) : Ext w ((w.alloc (mO k i f t (.slice VA vl vc))).alloc (.cells (chO (.slice UA ul uc) c).toArray 44)))
      exact ⟨rfl, ⟨hO.out.ext hXb, hB⟩, put_done (Fr.of_ext (S := []) hXb) hX (by simp) hst⟩
  · have e0 : (e == 0) = false := by simp [he]
    rw [if_neg (fun h => he h.1)]
    go_enter Tryz.func51, Tryz.ntmps51
    go_wp2_with fail
    go_end0
    have hXb := (Gn.ext (w := w) : Ext w ((w.alloc (mO k i f t (.slice VA vl vc))).alloc (.cells (chO (.slice UA ul uc) c).toArray 44)))
    exact ⟨rfl, ⟨hO.out.ext hXb, hB⟩, put_done (Fr.of_ext (S := []) hXb) hX (by simp) hst⟩
end Go.Proofs.YtiknkcadbaeknaaGreat
set_option linter.unusedVariables false
set_option linter.unusedSimpArgs false
namespace Go.Proofs.YtiknkcadbaeknaaGreat
open Go.RowKit
attribute [local go_sem] GW.cell GW.frozen In.eq_true In.le_true In.ne In.ne' In.ne_add In.ne_add' In.lt_add Upto.le_true Upto.le_add Upto.lt_add
theorem tErn : ElemT Tryz.prog 24 35 (.int .i64 0) 1 8 := ElemT.mk' Tryz.underlying24 (by kernel_rfl) rfl (by omega)
theorem tChs : ElemT Tryz.prog 26 44 zChV 6 64 := ElemT.mk' Tryz.underlying26 (by kernel_rfl) rfl (by omega)
def ns (l : List Int) : List Value := l.map (Value.int .i64)
/-- The box of the answers. -/
def BxA (w : World) (base B : Nat) (l : List Int) : Prop := ∃ sv, Ob w B 24 [sv] ∧ w.ownsRow base 35 1 sv l.length (ns l) ∧ base ≤ B
theorem BxA.ext {w w' : World} {base B : Nat} {l : List Int} (h : BxA w base B l) (k : Ext w w') : BxA w' base B l := by obtain ⟨sv, h1, h2, h3⟩ := h; exact ⟨sv, h1.ext k, own_ext h2 k, h3⟩
theorem BxA.stay {w w' : World} {base B s mb : Nat} {l : List Int} (h : BxA w base B l) (hst : StOk w s mb) (hF : Fr [s, mb] w w') : BxA w' base B l := by
  obtain ⟨sv, h1, h2, h3⟩ := h
  have hne := hst.ne_ob h1 (by decide)
  exact ⟨sv, h1.fr hF (by simp only [List.mem_cons, List.not_mem_nil, or_false]; omega), own_stay h2 hF (hst.nt (by decide)), h3⟩
set_option maxHeartbeats 4000000 in
set_option maxRecDepth 100000 in
theorem ansPut_c (wA : World) (B s mb : Nat) (l : List Int) (k i f t : Int) (u v : Value) (VA UA : Option Addr) (vl vc ul uc : Nat) (hv : v = .slice VA vl vc) (hu : u = .slice UA ul uc) (c : Ch) (e : Int) (hl : l.length ≤ 100000) (w : World) (h : BxA w wA.heap.size B l) (hX : Ext wA w) (hst : StOk w s mb) :
    Calls Tryz.prog 49 #[mg k i f t v, chV u c, .int .i64 e, .pointer (some ⟨B, 0, none⟩)] w fun r w' => r = .returned (.tuple #[]) ∧ BxA w' wA.heap.size B (l ++ [e]) ∧ Ext wA w' ∧ w'.heap[s]? = w.heap[s]? ∧ w'.heap[mb]? = w.heap[mb]? := by
  obtain ⟨sv, hO, ho, hB⟩ := h
  subst hv; subst hu
  obtain ⟨A, cap, rfl⟩ := own_form ho
  have hlt := hO.lt
  have c0 := hO.cell 0 rfl
  haveI : In B w := ⟨hlt⟩
  have hbase := hX.size
  have hne1 := hst.ne_ob hO (by decide)
  have hne2 := hide (hst.ne_own ho (by decide))
  have hnB := hO.not_own ho (by decide)
  have hge := hide (ob_ge ho)
  replace hO := hide hO
  replace ho := hide ho
  have hsrc : Src Tryz.prog 1 24 (.slice (some ⟨w.heap.size + 1 + 1, 0, none⟩) 1 1) 1 [.int .i64 e] (((w.alloc (mO k i f t (.slice VA vl vc))).alloc (.cells (chO (.slice UA ul uc) c).toArray 44)).alloc (.cells #[.int .i64 e] 35)) := by
    have := src_one (P := Tryz.prog) Tryz.underlying24 ((w.alloc (mO k i f t (.slice VA vl vc))).alloc (.cells (chO (.slice UA ul uc) c).toArray 44)) (.int .i64 e) 35 rfl
    rw [World.size_alloc, World.size_alloc] at this
    exact this
  replace hsrc := hide hsrc
  go_enter Tryz.func49, Tryz.ntmps49
  go_wp2_with (at_builtin; (refine wpl_app tErn rfl (.tmp 7) (.tmp 9) rfl rfl (own_ext ho.out (Gn.ext (w := w))) rfl hsrc.out (by unfold maxLen; omega) (by omega) (by first | omega | (simp; omega)) ?_; intro v1 w1 ho1 hg1 hob1; replace hg1 : World.grownBy _ w1 (Value.slice A l.length cap).ownBlock := hg1; have hXb := (Gn.ext (w := w) : Ext w ((((w.alloc (mO k i f t (.slice VA vl vc))).alloc (.cells (chO (.slice UA ul uc) c).toArray 44)).alloc (.cells #[.int .i64 e] 35)))); have O1 := (hO.out.ext hXb).grown hg1 (fun e => hnB e.symm); have k0 := O1.cell 0 rfl; have z0 := O1.free 0; have hlt1 := O1.lt; haveI : In B w1 := ⟨hlt1⟩; obtain ⟨A1, cp1, rfl⟩ := own_form ho1))
  go_end0
  have hF := ((Fr.of_ext (S := B :: ob (.slice A l.length cap)) hXb).then (fr_grown hg1) (fun x hx => .inl (by simp; exact .inr (by simpa [ob] using hx)))).setCell ⟨B, 0, none⟩ (.slice A1 (l.length + 1) cp1) (.inl (by simp))
  have hP := put_done hF hX (by
    intro b hb
    rcases List.mem_cons.1 hb with rfl | hb
    · exact ⟨hB, hne1⟩
    · exact ⟨(hge.out b hb).1, hne2.out b hb⟩) hst
  refine ⟨rfl, ⟨.slice A1 (l.length + 1) cp1, O1.set 0 _, ?_, hB⟩, hP⟩
  have h1 := own_stay ho1 ((Fr.refl [B] w1).setCell ⟨B, 0, none⟩ (.slice A1 (l.length + 1) cp1) (.inl (by simp))) (by intro b hb; rw [List.mem_singleton.1 hb]; exact O1.nt (by decide))
  rw [List.length_append, List.length_singleton]
  unfold ns at h1 ⊢
  rw [List.map_append]
  exact h1
end Go.Proofs.YtiknkcadbaeknaaGreat
set_option linter.unusedVariables false
set_option linter.unusedSimpArgs false
namespace Go.Proofs.YtiknkcadbaeknaaGreat
open Go.RowKit
attribute [local go_sem] GW.cell GW.frozen In.eq_true In.le_true In.ne In.ne' In.ne_add In.ne_add' In.lt_add Upto.le_true Upto.le_add Upto.lt_add
abbrev OwnCh := OwnX 44 6 chO (fun c : Ch => c.2.1)
/-- The box of the changes. -/
def BxH (w : World) (base B : Nat) (L : List (Value × Ch)) : Prop := ∃ sv, Ob w B 26 [sv] ∧ OwnCh w base sv L ∧ base ≤ B
set_option maxHeartbeats 1000000 in
theorem isChange_c (UA : Option Addr) (ul uc : Nat) (c : Ch) (w : World) : Calls Tryz.prog 53 #[chV (.slice UA ul uc) c] w fun e w' => e = .returned (.bool (decide (0 < c.1))) ∧ Ext w w' := by
  obtain ⟨cs, cr, ⟨o1, o2⟩, n1, n2⟩ := c
  by_cases h : 0 < cs
  · have hI : (0 : Int) < cs := by omega
    have d1 : decide (0 < cs) = true := decide_eq_true h
    go_enter Tryz.func53, Tryz.ntmps53
    go_wp2_with fail
    go_returns
    exact ⟨by simp [h], (Ext.refl w).alloc _⟩
  · have hI : ¬ (0 : Int) < cs := by omega
    obtain rfl : cs = 0 := by omega
    go_enter Tryz.func53, Tryz.ntmps53
    go_wp2_with fail
    go_returns
    exact ⟨by simp, (Ext.refl w).alloc _⟩
theorem chO_new (u : Value) (c : Ch) (w : World) : Sl (w.alloc (.cells (chO u c).toArray 44)) [] 6 (.slice (some ⟨w.heap.size, 0, none⟩) 1 1) 1 (chO u c) :=
  Sl.own (World.ownsRow_lit (base := w.heap.size) (e := 44) (size := 6) w (chO u c).toArray 1 (Nat.le_refl _) (by decide) rfl) (by simp)
theorem chO_one {UA : Option Addr} {ul uc : Nat} {c : Ch} : ∀ x ∈ chO (.slice UA ul uc) c, x.oneCell' = true := by
  intro x hx; simp [chO] at hx; rcases hx with rfl | rfl | rfl | rfl | rfl | rfl <;> rfl
end Go.Proofs.YtiknkcadbaeknaaGreat
set_option linter.unusedVariables false
set_option linter.unusedSimpArgs false
namespace Go.Proofs.YtiknkcadbaeknaaGreat
open Go.RowKit
attribute [local go_sem] GW.cell GW.frozen In.eq_true In.le_true In.ne In.ne' In.ne_add In.ne_add' In.lt_add Upto.le_true Upto.le_add Upto.lt_add
def evO (v : Value) (x : Ex) : List Value := [.int .i64 x.1.1, v, .int .i64 x.2.1, .int .i64 x.2.2]
abbrev evV (v : Value) (x : Ex) : Value := .agg #[.int .i64 x.1.1, v, .int .i64 x.2.1, .int .i64 x.2.2]
theorem tEvs : ElemT Tryz.prog 31 48 (.agg #[.int .i64 0, .slice none 0 0, .int .i64 0, .int .i64 0]) 4 48 := ElemT.mk' Tryz.underlying31 (by kernel_rfl) rfl (by omega)
abbrev OwnEx := OwnX 48 4 evO (fun x : Ex => x.1.2)
/-- The box of the events. -/
def BxE (w : World) (base B : Nat) (L : List (Value × Ex)) : Prop := ∃ sv, Ob w B 31 [sv] ∧ OwnEx w base sv L ∧ base ≤ B
theorem BxE.ext {w w' : World} {base B : Nat} {L : List (Value × Ex)} (h : BxE w base B L) (k : Ext w w') : BxE w' base B L := by obtain ⟨sv, h1, h2, h3⟩ := h; exact ⟨sv, h1.ext k, h2.ext k, h3⟩
theorem BxE.stay {w w' : World} {base B s mb : Nat} {L : List (Value × Ex)} (h : BxE w base B L) (hst : StOk w s mb) (hF : Fr [s, mb] w w') : BxE w' base B L := by
  obtain ⟨sv, h1, h2, h3⟩ := h
  have hne := hst.ne_ob h1 (by decide)
  exact ⟨sv, h1.fr hF (by simp only [List.mem_cons, List.not_mem_nil, or_false]; omega), h2.stay hF (fun b hb => ⟨hst.nt (by decide) b hb, hst.nt (by decide) b hb⟩), h3⟩
theorem evO_new (u : Value) (x : Ex) (w : World) : Sl (w.alloc (.cells (evO u x).toArray 48)) [] 4 (.slice (some ⟨w.heap.size, 0, none⟩) 1 1) 1 (evO u x) :=
  Sl.own (World.ownsRow_lit (base := w.heap.size) (e := 48) (size := 4) w (evO u x).toArray 1 (Nat.le_refl _) (by decide) rfl) (by simp)
theorem evO_one {UA : Option Addr} {ul uc : Nat} {x : Ex} : ∀ y ∈ evO (.slice UA ul uc) x, y.oneCell' = true := by
  intro y hy; simp [evO] at hy; rcases hy with rfl | rfl | rfl | rfl <;> rfl
theorem buildEv (A : Option Addr) (n cap : Nat) (x : Ex) (w : World) : (Instr.buildSlice 31 1 #[(0, evV (.slice A n cap) x)]).run Tryz.prog w = .ok (.slice (some ⟨w.heap.size, 0, none⟩) 1 1) (w.alloc (.cells #[.int .i64 x.1.1, .slice A n cap, .int .i64 x.2.1, .int .i64 x.2.2] 48)) := by
  simp [go_sem]
def rowOF (r : List Vl) : Fact := .st (fun u w => RwO w u r) (fun _ _ _ h k => RwO.ext h k)
def evtF (x : Ex) : Fact := .st (fun u w => ∃ A cp, u = evV (.slice A x.1.2.length cp) x ∧ RwO w (.slice A x.1.2.length cp) x.1.2) (fun _ _ _ h k => by obtain ⟨A, cp, e, h⟩ := h; exact ⟨A, cp, e, RwO.ext h k⟩)
def oneEv (x : Ex) : Fact := .st (fun v w => ∃ A cp, Sl w [] 4 v 1 (evO (.slice A x.1.2.length cp) x) ∧ RwO w (.slice A x.1.2.length cp) x.1.2) (fun _ _ _ h k => by obtain ⟨A, cp, h1, h2⟩ := h; exact ⟨A, cp, Sl.ext h1 k, RwO.ext h2 k⟩)
theorem rwo_val {w : World} {v : Value} {l : List Vl} (h : RwO w v l) : ∃ A cap, v = .slice A l.length cap := own_form h
set_option maxHeartbeats 8000000 in
set_option maxRecDepth 100000 in
theorem evtPut0_c (wA : World) (B s mb : Nat) (L : List (Value × Ex)) (k i f t : Int) (u v : Value) (VA : Option Addr) (vl vc : Nat) (hv : v = .slice VA vl vc) (c : Ch) (hu : Rw wA [] u c.2.1) (h0 : decide (0 < c.1) = false) (e : Int) (w : World) (h : BxE w wA.heap.size B L) (hX : Ext wA w) (hst : StOk w s mb) :
    Calls Tryz.prog 55 #[mg k i f t v, chV u c, .int .i64 e, .pointer (some ⟨B, 0, none⟩)] w fun r w' => r = .returned (.tuple #[]) ∧ BxE w' wA.heap.size B L ∧ Ext wA w' ∧ w'.heap[s]? = w.heap[s]? ∧ w'.heap[mb]? = w.heap[mb]? := by
  obtain ⟨UA, uc, eu⟩ := rw_val hu
  subst hv; subst eu
  have hic := hide (fun w => isChange_c UA c.2.1.length uc c w)
  rw [h0] at hic
  replace h := hide h
  replace h0 := hide h0
  go_enter Tryz.func55, Tryz.ntmps55
  go_wp2_with (go_at_call 53; first | ((with_reducible refine seq_gw' (hic.out _) ?_); intro g1) | ((with_reducible refine seq_gw (hic.out _) ?_); intro g1))
  go_end0
  have hXb := (Gn.ext (w := w) : Ext w g1.val)
  exact ⟨rfl, h.out.ext hXb, put_done (Fr.of_ext (S := []) hXb) hX (by simp) hst⟩
set_option maxHeartbeats 8000000 in
set_option maxRecDepth 100000 in
theorem evtPut1_c (wA : World) (B s mb : Nat) (L : List (Value × Ex)) (i f t : Int) (u v : Value) (VA : Option Addr) (vl vc : Nat) (hv : v = .slice VA vl vc) (cs : Nat) (cr : List Vl) (o1 o2 n1 n2 : Int) (hu : Rw wA [] u cr) (hr8 : cr.length ≤ 8) (h0 : decide (0 < cs) = true) (e : Int) (hl : L.length ≤ 100000) (w : World) (h : BxE w wA.heap.size B L) (hX : Ext wA w) (hst : StOk w s mb) :
    Calls Tryz.prog 55 #[mg 1 i f t v, chV u (cs, cr, (o1, o2), (n1, n2)), .int .i64 e, .pointer (some ⟨B, 0, none⟩)] w fun r w' => r = .returned (.tuple #[]) ∧ (∃ L', BxE w' wA.heap.size B L' ∧ L'.map Prod.snd = L.map Prod.snd ++ [((i, cr), (n1, n2))]) ∧ Ext wA w' ∧ w'.heap[s]? = w.heap[s]? ∧ w'.heap[mb]? = w.heap[mb]? := by
  have hcp := hide (fun w' (hx : Ext wA w') => rowCopy_c cr u w' (Sl.ext hu hx) (by omega))
  obtain ⟨UA, uc, eu⟩ := rw_val hu
  subst hv; subst eu
  have hic := hide (fun w => isChange_c UA cr.length uc (cs, cr, (o1, o2), (n1, n2)) w)
  simp only at hic
  rw [h0] at hic
  obtain ⟨sv, hO, ho, hB⟩ := h
  obtain ⟨A, cap, rfl⟩ := ho.form
  have hlt := hO.lt
  have q0 := hide (hO.cell 0 rfl)
  haveI : In B w := ⟨hlt⟩
  have hbase := hX.size
  have hne1 := hst.ne_ob hO (by decide)
  have hnB := hO.not_own ho.1 (by decide)
  replace hO := hide hO
  replace ho := hide ho
  replace h0 := hide h0
  have hOm0 := hide (show Ob ((w.alloc (mO 1 i f t (.slice VA vl vc))).alloc (.cells (chO (.slice UA cr.length uc) (cs, cr, (o1, o2), (n1, n2))).toArray 44)) w.heap.size 67 [.int .i64 1, .int .i64 i, .int .i64 f, .int .i64 t, .slice VA vl vc] from (Ob.new w 67 [.int .i64 1, .int .i64 i, .int .i64 f, .int .i64 t, .slice VA vl vc]).alloc _)
  have hOc0 := hide (show Ob ((w.alloc (mO 1 i f t (.slice VA vl vc))).alloc (.cells (chO (.slice UA cr.length uc) (cs, cr, (o1, o2), (n1, n2))).toArray 44)) (w.heap.size + 1) 44 (chO (.slice UA cr.length uc) (cs, cr, (o1, o2), (n1, n2))) by
    have := Ob.new (w.alloc (mO 1 i f t (.slice VA vl vc))) 44 (chO (.slice UA cr.length uc) (cs, cr, (o1, o2), (n1, n2)))
    rw [World.size_alloc] at this
    exact this)
  go_enter Tryz.func55, Tryz.ntmps55
  go_wp2_with (go_at_call 53; first | ((with_reducible refine seq_gw' (hic.out _) ?_); intro g1) | ((with_reducible refine seq_gw (hic.out _) ?_); intro g1))
  have hOm := hOm0.out.ext g1.grown
  have hOc := hOc0.out.ext g1.grown
  have x1 := hide (hOm.cell 1 rfl)
  have y1 := hide (hOc.cell 1 rfl)
  have y4 := hide (hOc.cell 4 rfl)
  have y5 := hide (hOc.cell 5 rfl)
  have hXg := hide (Gn.ext (w := w) : Ext w g1.val)
  have qB := hide ((hO.out.ext hXg.out).cell 0 rfl)
  refine wp_region_list_tail 10 [(.is (.slice A L.length cap)), (.is (.pointer (some ⟨w.heap.size, 1, none⟩))), (.is (.int .i64 i)), (.is (.pointer (some ⟨w.heap.size + 1, 1, none⟩))), (.is (.slice UA cr.length uc)), rowOF cr, (.is (.pointer (some ⟨w.heap.size + 1, 4, none⟩))), (.is (.agg #[.int .i64 n1, .int .i64 n2])), evtF ((i, cr), (n1, n2)), oneEv ((i, cr), (n1, n2))] (by kernel_rfl) (by kernel_rfl) (by kernel_rfl) (by kernel_rfl) (by kernel_rfl) (by kernel_rfl) (by kernel_rfl) ?_ ?_
  · refine ⟨?_, ?_, ?_, ?_, ?_, ?_, ?_, ?_, ?_, ?_, trivial⟩
    · intro b w' h hE
      have f3 : b.tmps.getD 3 undef = .pointer (some ⟨B, 0, none⟩) := hE 3 (of_decide_eq_true (by kernel_rfl))
      have c0 := cell_later h.ext qB.out
      exact good_load (wanted_none rfl) rfl f3 (by simp [go_sem, c0]) rfl
    · intro b w' h hE
      have f4 : b.tmps.getD 4 undef = .pointer (some ⟨w.heap.size, 0, none⟩) := hE 4 (of_decide_eq_true (by kernel_rfl))
      exact good_field (wanted_none rfl) rfl f4 (by simp [go_sem]) rfl
    · intro b w' h hE
      have f16 : b.tmps.getD 16 undef = .pointer (some ⟨w.heap.size, 1, none⟩) := h.dep 1 _ 16 (by kernel_rfl) rfl rfl
      have c0 := cell_later h.ext x1.out
      exact good_load (wanted_none rfl) rfl f16 (by simp [go_sem, c0]) rfl
    · intro b w' h hE
      have f5 : b.tmps.getD 5 undef = .pointer (some ⟨w.heap.size + 1, 0, none⟩) := hE 5 (of_decide_eq_true (by kernel_rfl))
      exact good_field (wanted_none rfl) rfl f5 (by simp [go_sem]) rfl
    · intro b w' h hE
      have f18 : b.tmps.getD 18 undef = .pointer (some ⟨w.heap.size + 1, 1, none⟩) := h.dep 3 _ 18 (by kernel_rfl) rfl rfl
      have c0 := cell_later h.ext y1.out
      exact good_load (wanted_none rfl) rfl f18 (by simp [go_sem, c0]) rfl
    · intro b w' h hE
      have f19 : b.tmps.getD 19 undef = .slice UA cr.length uc := h.dep 4 _ 19 (by kernel_rfl) rfl rfl
      have g19 : b.tmps[19]?.getD undef = .slice UA cr.length uc := by rw [← Array.getD_eq_getD_getElem?]; exact f19
      refine good_call (wanted_none rfl) rfl (enters Tryz.func54 (by kernel_rfl) rfl) ?_
      rw [show (#[.tmp 19] : Array Operand).map b.eval = #[.slice UA cr.length uc] by simp [Act.eval, g19]]
      exact (hcp.out w' (hX.trans (hXg.out.trans h.ext))).mono fun e w1 ⟨v, he, ho, hx⟩ => ⟨v, he, own_base ho (Nat.zero_le _), hx⟩
    · intro b w' h hE
      have f5 : b.tmps.getD 5 undef = .pointer (some ⟨w.heap.size + 1, 0, none⟩) := hE 5 (of_decide_eq_true (by kernel_rfl))
      exact good_field (wanted_none rfl) rfl f5 (by simp [go_sem]) rfl
    · intro b w' h hE
      have f21 : b.tmps.getD 21 undef = .pointer (some ⟨w.heap.size + 1, 4, none⟩) := h.dep 6 _ 21 (by kernel_rfl) rfl rfl
      have c4 := cell_later h.ext y4.out
      have c5 := cell_later h.ext y5.out
      exact good_load (wanted_none rfl) rfl f21 (by simp [go_sem, c4, c5]) rfl
    · intro b w' h hE
      have f17 : b.tmps.getD 17 undef = .int .i64 i := h.dep 2 _ 17 (by kernel_rfl) rfl rfl
      have g17 : b.tmps[17]?.getD undef = .int .i64 i := by rw [← Array.getD_eq_getD_getElem?]; exact f17
      have f20 : RwO w' (b.tmps.getD 20 undef) cr := h.dep 5 _ 20 (by kernel_rfl) rfl rfl
      have f22 : b.tmps.getD 22 undef = .agg #[.int .i64 n1, .int .i64 n2] := h.dep 7 _ 22 (by kernel_rfl) rfl rfl
      have g22 : b.tmps[22]?.getD undef = .agg #[.int .i64 n1, .int .i64 n2] := by rw [← Array.getD_eq_getD_getElem?]; exact f22
      obtain ⟨A2, cp, e20⟩ := rwo_val f20
      have g20 : b.tmps[20]?.getD undef = .slice A2 cr.length cp := by rw [← Array.getD_eq_getD_getElem?]; exact e20
      rw [e20] at f20
      exact good_run (wanted_none rfl) (v := evV (.slice A2 cr.length cp) ((i, cr), (n1, n2))) (by simp [execOp, Act.eval, go_sem, g17, g20, g22, Sem.run_bind, Sem.run_pure, Result.andThen_ok]) ⟨A2, cp, rfl, f20⟩
    · intro b w' h hE
      have f23 : ∃ A2 cp, (b.tmps.getD 23 undef) = evV (.slice A2 cr.length cp) ((i, cr), (n1, n2)) ∧ RwO w' (.slice A2 cr.length cp) cr := h.dep 8 _ 23 (by kernel_rfl) rfl rfl
      obtain ⟨A2, cp, e23, hr23⟩ := f23
      have g23 : b.tmps[23]?.getD undef = evV (.slice A2 cr.length cp) ((i, cr), (n1, n2)) := by rw [← Array.getD_eq_getD_getElem?]; exact e23
      have := buildEv A2 cr.length cp ((i, cr), (n1, n2)) w'
      refine good_grow (w' := w'.alloc (.cells #[.int .i64 i, .slice A2 cr.length cp, .int .i64 n1, .int .i64 n2] 48)) (v := .slice (some ⟨w'.heap.size, 0, none⟩) 1 1) (wanted_none rfl) ?_ ⟨_, _, evO_new (.slice A2 cr.length cp) ((i, cr), (n1, n2)) w', RwO.ext hr23 ((Ext.refl _).alloc _)⟩ ((Ext.refl _).alloc _)
      simp [execOp, Act.eval, g23, this, Sem.run_bind, Sem.run_pure, Result.andThen_ok]
  · intro b w2 hX2 hd hz he' hf
    have e15 : b.tmps.getD 15 undef = .slice A L.length cap := hf 0 _ 15 (by omega) rfl rfl
    have e16 : b.tmps.getD 16 undef = .pointer (some ⟨w.heap.size, 1, none⟩) := hf 1 _ 16 (by omega) rfl rfl
    have e17 : b.tmps.getD 17 undef = .int .i64 i := hf 2 _ 17 (by omega) rfl rfl
    have e18 : b.tmps.getD 18 undef = .pointer (some ⟨w.heap.size + 1, 1, none⟩) := hf 3 _ 18 (by omega) rfl rfl
    have e19 : b.tmps.getD 19 undef = .slice UA cr.length uc := hf 4 _ 19 (by omega) rfl rfl
    have f20 : RwO w2 (b.tmps.getD 20 undef) cr := hf 5 _ 20 (by omega) rfl rfl
    have e21 : b.tmps.getD 21 undef = .pointer (some ⟨w.heap.size + 1, 4, none⟩) := hf 6 _ 21 (by omega) rfl rfl
    have e22 : b.tmps.getD 22 undef = .agg #[.int .i64 n1, .int .i64 n2] := hf 7 _ 22 (by omega) rfl rfl
    have f23 : ∃ A2 cp, (b.tmps.getD 23 undef) = evV (.slice A2 cr.length cp) ((i, cr), (n1, n2)) ∧ RwO w2 (.slice A2 cr.length cp) cr := hf 8 _ 23 (by omega) rfl rfl
    have f24 : ∃ A2 cp, Sl w2 [] 4 (b.tmps.getD 24 undef) 1 (evO (.slice A2 cr.length cp) ((i, cr), (n1, n2))) ∧ RwO w2 (.slice A2 cr.length cp) cr := hf 9 _ 24 (by omega) rfl rfl
    have e := frame_puts hd hz he'
    obtain ⟨X, hXx⟩ : ∃ X : Nat → Value, ∀ d, b.tmps.getD d undef = X d := ⟨_, fun _ => rfl⟩
    rw [hXx] at e15 e16 e17 e18 e19 f20 e21 e22 f23 f24
    obtain ⟨A20, c20, q20⟩ := rwo_val f20
    obtain ⟨A23, c23, q23, -⟩ := f23
    obtain ⟨A24, c24, f24, r24⟩ := f24
    obtain ⟨A25, c25, q24⟩ := sl_form f24
    rw [show dstsOf _ = [15, 16, 17, 18, 19, 20, 21, 22, 23, 24] from rfl] at e
    simp only [List.foldl_cons, List.foldl_nil, hXx, Act.put, List.setIfInBounds_toArray, List.set_cons_succ, List.set_cons_zero] at e
    rw [e15, e16, e17, e18, e19, q20, e21, e22, q23, q24] at e
    rw [q24] at f24
    replace f24 := hide f24
    replace r24 := hide r24
    clear hf he' hz hd hXx e15 e16 e17 e18 e19 e21 e22 q20 q23 q24 f20
    subst e
    have hX2w := hide (hXg.out.trans hX2)
    simp only [List.drop_succ_cons, List.drop_zero]
    go_wp2_with (at_builtin; (refine wpl_app tEvs rfl (.tmp 15) (.tmp 24) rfl rfl (ho.out.ext hX2w.out).1 rfl (src_sl Tryz.underlying31 f24.out evO_one (by omega)) (by unfold maxLen; omega) (by omega) (by have := hX2w.out.size; omega) ?_; intro v1 w1 ho1 hg1 hob1; replace hg1 : World.grownBy _ w1 (Value.slice A L.length cap).ownBlock := hg1; have O1 := (hO.out.ext hX2w.out).grown hg1 (fun e => hnB e.symm); have k0 := O1.cell 0 rfl; have z0 := O1.free 0; have hlt1 := O1.lt; haveI : In B w1 := ⟨hlt1⟩; have hN1 := hide ((ho.out.ext hX2w.out).app (M := [((.slice A24 cr.length c24), ((i, cr), (n1, n2)))]) (by decide) (by simpa using ho1) hg1 (by intro p hp; rw [List.mem_singleton.1 hp]; exact r24.out)); obtain ⟨A1, cp1, rfl⟩ := own_form ho1))
    go_end0
    have hge := ob_ge ho.out.1
    have hne2 := hst.ne_own ho.out.1 (by decide)
    have hF := ((Fr.of_ext (S := B :: ob (.slice A L.length cap)) hX2w.out).then (fr_grown hg1) (fun x hx => .inl (by simp; exact .inr (by simpa [ob] using hx)))).setCell ⟨B, 0, none⟩ (.slice A1 (L.length + 1) cp1) (.inl (by simp))
    have hP := put_done hF hX (by
      intro b hb
      rcases List.mem_cons.1 hb with rfl | hb
      · exact ⟨hB, hne1⟩
      · exact ⟨(hge b hb).1, hne2 b hb⟩) hst
    refine ⟨rfl, ⟨L ++ [((.slice A24 cr.length c24), ((i, cr), (n1, n2)))], ⟨.slice A1 (L.length + 1) cp1, O1.set 0 _, ?_, hB⟩, by simp⟩, hP⟩
    exact hN1.out.stay ((Fr.refl [B] w1).setCell ⟨B, 0, none⟩ (.slice A1 (L.length + 1) cp1) (.inl (by simp))) (by intro b hb; rw [List.mem_singleton.1 hb]; exact ⟨O1.nt (by decide), O1.nt (by decide)⟩)
end Go.Proofs.YtiknkcadbaeknaaGreat
