/-
  A helper of ours: no claim of its own. Layer 14 (past): live.
-/
import Derived.Test.YtajelkkiijdegaaGreatPasM
set_option linter.unusedVariables false
set_option linter.unusedSimpArgs false
namespace Go.Proofs.YtajelkkiijdegaaGreat
open Go.RowKit
attribute [local go_sem] GW.cell GW.frozen In.eq_true In.le_true In.ne In.ne' In.ne_add In.ne_add' In.lt_add Upto.le_true Upto.le_add Upto.lt_add
theorem ptCol : ElemT Tryz.prog 23 87 (.agg #[.string ⟨#[]⟩, .int .i64 0]) 2 24 := ElemT.mk' Tryz.underlying23 (by kernel_rfl) rfl (by omega)
theorem cl_one1 (l : List Cl) : ∀ u ∈ cl l, u.oneCell' = true := fun u hu => by
  unfold cl at hu
  obtain ⟨a, -, ha⟩ := List.mem_flatMap.1 hu
  simp [cc] at ha
  rcases ha with rfl | rfl <;> rfl
set_option maxHeartbeats 1000000 in
set_option maxRecDepth 100000 in
theorem schClone_c (l : List Cl) (v : Value) (w : World) (h : Cw w [] v l) (hz : l.length ≤ 1048576) : Calls Tryz.prog 37 #[v] w fun e w' => ∃ v', e = .returned v' ∧ w'.ownsRow w.heap.size 87 2 v' l.length (cl l) ∧ Ext w w' := by
  obtain ⟨A, cap, rfl, hl, hm, -⟩ := cw_form h
  have hq := fun w => Lib.run_eql_slice_nil (P := Tryz.prog) w 23 87 A l.length cap 0 0 Tryz.underlying23
  cases A with
  | none =>
    have hl0 : l = [] := by
      obtain ⟨A', cap', e, _, _, h3, h4⟩ := h
      rcases h4 with h4 | ⟨b, o, rfl, _⟩
      · have := congrArg List.length h4; rw [cl_length] at this; exact List.eq_nil_of_length_eq_zero (by simp at this; omega)
      · cases e
    subst hl0
    clear h hq
    have hq0 := fun w => Lib.run_eql_slice_nil (P := Tryz.prog) w 23 87 none 0 cap 0 0 Tryz.underlying23
    show Calls Tryz.prog 37 #[.slice none 0 cap] w fun e w' => ∃ v', e = .returned v' ∧ w'.ownsRow w.heap.size 87 2 v' 0 [] ∧ Ext w w'
    go_enter Tryz.func37, Tryz.ntmps37
    go_wp2_with fail
    go_returns
    exact ⟨_, rfl, World.ownsRow_nil _ _ _ _, Ext.refl w⟩
  | some a =>
    have hlit := hide (World.ownsRow_lit (base := w.heap.size) (e := 87) (size := 2) w #[] 0 (Nat.le_refl _) (by decide) rfl)
    have hv := hide h
    clear h
    go_enter Tryz.func37, Tryz.ntmps37
    go_wp2_with (at_builtin; (refine wpl_app ptCol rfl (.tmp 5) (.tmp 6) rfl rfl hlit.out rfl (src_sl Tryz.underlying23 (Sl.ext hv.out ((Ext.refl w).alloc _)) (cl_one1 _) (by omega)) (by unfold maxLen; omega) (by omega) (by simp) ?_; intro v1 w1 ho1 hg1 _))
    go_returns
    have ho2 : w1.ownsRow w.heap.size 87 2 v1 l.length (cl l) := by simpa using ho1
    exact ⟨_, rfl, ho2, ext_grown ((Ext.refl w).alloc _) hg1 (fun k hk => (hlit.out.lt k hk).1)⟩
set_option maxHeartbeats 2000000 in
set_option maxRecDepth 100000 in
theorem pnew_c (l : List Cl) (v : Value) (w : World) (h : Cw w [] v l) (ha : mayS l = true) (hz : l.length ≤ 1048576) : Calls Tryz.prog 7 #[v] w fun e w' => ∃ p mb, e = .returned (.tuple #[.pointer (some ⟨p, 0, none⟩), .int .i64 0]) ∧ Pz w' w.heap.size p l 0 0 mb 0 [] ∧ Ext w w' ∧ w.heap.size ≤ p ∧ w.heap.size ≤ mb := by
  have h1 := hide (mayS_c l v w h)
  rw [ha] at h1
  have h2 := hide (fun w' (hX : Ext w w') => schClone_c l v w' (Sl.ext h hX) hz)
  obtain ⟨A, cap, rfl, -, -, -⟩ := cw_form h
  have hmk : ∀ w, (Instr.makeMap 88 none).run Tryz.prog w = .ok (.map (some w.heap.size)) (w.alloc (.map #[] 0)) := fun _ => by kernel_rfl
  clear h ha
  go_enter Tryz.func7, Tryz.ntmps7
  go_wp2_with (first | (go_at_call 36; (with_reducible refine seq_gw h1.out ?_); intro g) | (go_at_call 37; refine (h2.out _ g.grown).mono ?_; rintro ee w2 ⟨v2, rfl, ho2, hX2⟩; have hX3 := hide (g.grown.trans hX2); obtain ⟨A2, c2, e2⟩ := own_form ho2; subst e2; replace ho2 := hide ho2; clear hX2))
  go_returns
  have hO := Ob.new (w2.alloc (.map #[] 0)) 93 [.slice A2 l.length c2, .int .i64 0, .int .i64 0, .map (some w2.heap.size), .slice none 0 0]
  rw [World.size_alloc] at hO
  have hX4 := (((Ext.refl w2).alloc (.map #[] 0)).alloc (.cells #[.slice A2 l.length c2, .int .i64 0, .int .i64 0, .map (some w2.heap.size), .slice none 0 0] 93))
  have hs := hX3.out.size
  exact ⟨_, _, rfl, ⟨⟨_, _, ⟨hO, World.ownsRow_nil _ _ _ _, by simp⟩, own_base (own_ext ho2.out hX4) (Nat.zero_le _)⟩, (Mv.made kentP w2 Tryz.prog 3).alloc _, by simp⟩, hX3.out.trans hX4, by omega, hs⟩
theorem cols_c (w : World) : Calls Tryz.prog 20 #[] w fun e w' => e = .returned (.slice (some ⟨w.heap.size, 0, none⟩) 1 1) ∧ w' = w.alloc (.cells #[.string ⟨#[97]⟩, .int .i64 1] 87) := by
  go_enter Tryz.func20, Tryz.ntmps20
  go_wp2_with fail
  go_returns
  exact ⟨rfl, rfl⟩
def colA : List Cl := [(⟨#[97]⟩, 1)]
theorem cols_cw (w : World) : Cw (w.alloc (.cells #[.string ⟨#[97]⟩, .int .i64 1] 87)) [] (.slice (some ⟨w.heap.size, 0, none⟩) 1 1) colA := by
  refine ⟨some ⟨w.heap.size, 0, none⟩, 1, rfl, Nat.le_refl _, by decide, rfl, .inr ⟨w.heap.size, 0, rfl, by simp, fun j u hj => ?_⟩⟩
  rw [Nat.zero_add]
  exact (Ob.new w 87 [.string ⟨#[97]⟩, .int .i64 1]).cell j hj
theorem mayColA : mayS colA = true := by decide
end Go.Proofs.YtajelkkiijdegaaGreat
set_option linter.unusedVariables false
set_option linter.unusedSimpArgs false
namespace Go.Proofs.YtajelkkiijdegaaGreat
open Go.RowKit
attribute [local go_sem] GW.cell GW.frozen In.eq_true In.le_true In.ne In.ne' In.ne_add In.ne_add' In.lt_add Upto.le_true Upto.le_add Upto.lt_add
def lrow : List Vl := [(1, 5, ⟨#[]⟩)]
def lm1 : PM := ((1, 1, 2, 9), lrow)
def lm2 : PM := ((3, 0, 9, 0), [])
def ls0 : StD := (0, [])
def ls1 : StD := (0, [((1, lrow), (2, 9), false)])
def ls2 : StD := (9, [((1, lrow), (2, 9), false)])
theorem lc1 : chkD ls0 lm1 = 0 := by decide
theorem lc2 : chkD ls1 lm2 = 0 := by decide
theorem lt1 : (tk ls0 lm1).1 = ls1 := rfl
theorem lt2 : (tk ls1 lm2).1 = ls2 := rfl
theorem stp_tk {s : StD} {m : PM} (h : chkD s m = 0) : stp s m = (tk s m).1 := by unfold stp; rw [if_pos h]
theorem li1 : ∃ T, InvF T ls1 := ⟨_, by have := InvF.nil.step lm1 (.slice none 0 0); rw [show ((0, []) : StD) = ls0 from rfl, stp_tk lc1, lt1] at this; exact this⟩
theorem li2 : ∃ T, InvF T ls2 := by
  obtain ⟨T, hT⟩ := li1
  have := hT.step lm2 (.slice none 0 0)
  rw [stp_tk lc2, lt2] at this
  exact ⟨_, this⟩
theorem lp1 (b : Nat) (v : Value) : PInv (nxP [] ls0 lm1 b v) ls1 := PInv.nil.take InvF.nil lm1 b v lc1
theorem lp2 (b : Nat) (v : Value) (b2 : Nat) (v2 : Value) : PInv (nxP (nxP [] ls0 lm1 b v) ls1 lm2 b2 v2) ls2 := by
  obtain ⟨T, hT⟩ := li1
  exact (lp1 b v).take hT lm2 b2 v2 lc2
theorem lx1 (b : Nat) (v : Value) : nxP [] ls0 lm1 b v = [(((1, 1), lrow, (2, 9)), b, v)] := rfl
section
variable {base p mb : Nat}
theorem tk1_c (w : World) (h : Pz w base p colA 0 0 mb 0 []) (rv : Value) (hrv : Rw w [] rv lrow) (hbw : base ≤ w.heap.size) (hbm : base ≤ mb) (hbp : base ≤ p) :
    Calls Tryz.prog 10 #[.pointer (some ⟨p, 0, none⟩), mg 1 1 2 9 rv] w fun e w' => ∃ CA cc b v, e = .returned (.tuple #[.agg #[.int .i64 1, .slice CA 1 cc, .int .i64 0, .int .i64 0, .int .i64 2, .int .i64 9], .int .i64 0]) ∧ Pz w' base p colA 0 1 mb 1 (nxP [] ls0 lm1 b v) ∧ Kq p mb w w' ∧ Below base w w' := by
  refine (ptake_c (s := ls0) 1 1 2 9 lrow rv w h PInv.nil InvF.nil (by unfold inM inI lrow; simp) (by simp) (by simp) hrv hbw hbm hbp (by decide) (by decide)).mono ?_
  rintro e w' ⟨cv, R, hR, he, hro, -, hP, hK, hB⟩
  have hR0 : R = 0 := hR.trans (by decide)
  rw [hR0] at he hro hP
  obtain ⟨b, v, hP⟩ := hP rfl
  obtain ⟨CA, cc, ec⟩ := own_form hro
  rw [ec] at he
  exact ⟨CA, cc, b, v, he, hP, hK, hB⟩
theorem tk2_c (w : World) (b : Nat) (v : Value) (h : Pz w base p colA 0 1 mb 1 (nxP [] ls0 lm1 b v)) (hbw : base ≤ w.heap.size) (hbm : base ≤ mb) (hbp : base ≤ p) :
    Calls Tryz.prog 10 #[.pointer (some ⟨p, 0, none⟩), mg 3 0 9 0 (.slice none 0 0)] w fun e w' => ∃ CA cc, e = .returned (.tuple #[.agg #[.int .i64 0, .slice CA 0 cc, .int .i64 0, .int .i64 0, .int .i64 0, .int .i64 0], .int .i64 0]) ∧ Pz w' base p colA 9 1 mb 2 [] ∧ Kq p mb w w' ∧ Below base w w' := by
  obtain ⟨T, hT⟩ := li1
  refine (ptake_c (s := ls1) 3 0 9 0 [] (.slice none 0 0) w h (lp1 b v) hT (by unfold inM inI; simp) (by
    intro y hy
    rcases row_nx hy with e | ⟨z, hz, -⟩
    · rw [e]; unfold lm1 lrow inI; simp
    · cases hz) (by rw [lx1]; simp) (Sl.nil _ _ _) hbw hbm hbp (by decide) (by decide)).mono ?_
  rintro e w' ⟨cv, R, hR, he, hro, -, hP, hK, hB⟩
  have hR0 : R = 0 := hR.trans (by rw [lx1, List.length_singleton]; decide)
  rw [hR0] at he hro hP
  obtain ⟨b2, v2, hP⟩ := hP rfl
  obtain ⟨CA, cc, ec⟩ := own_form hro
  rw [ec] at he
  exact ⟨CA, cc, he, hP, hK, hB⟩
theorem tk3_c (w : World) (h : Pz w base p colA 9 1 mb 2 []) (hbw : base ≤ w.heap.size) (hbm : base ≤ mb) (hbp : base ≤ p) :
    Calls Tryz.prog 10 #[.pointer (some ⟨p, 0, none⟩), mg 2 1 0 3 (.slice none 0 0)] w fun e w' => ∃ CA cc, e = .returned (.tuple #[.agg #[.int .i64 0, .slice CA 0 cc, .int .i64 0, .int .i64 0, .int .i64 0, .int .i64 0], .int .i64 8]) ∧ Pz w' base p colA 9 1 mb 2 [] ∧ Kq p mb w w' ∧ Below base w w' := by
  obtain ⟨T, hT⟩ := li2
  refine (ptake_c (s := ls2) 2 1 0 3 [] (.slice none 0 0) w h (lp2 0 (.slice none 0 0) 0 (.slice none 0 0)) hT (by unfold inM inI; simp) (by simp) (by simp) (Sl.nil _ _ _) hbw hbm hbp (by decide) (by decide)).mono ?_
  rintro e w' ⟨cv, R, hR, he, hro, hP, -, hK, hB⟩
  have hR0 : R = 8 := hR.trans (by decide)
  rw [hR0] at he hro hP
  obtain ⟨CA, cc, ec⟩ := own_form hro
  rw [ec] at he
  exact ⟨CA, cc, he, hP (by decide), hK, hB⟩
end
theorem lrow_rw (w : World) : Rw (w.alloc (.cells #[.int .i64 1, .int .i64 5, .string ⟨#[]⟩] 83)) [] (.slice (some ⟨w.heap.size, 0, none⟩) 1 1) lrow := by
  refine ⟨some ⟨w.heap.size, 0, none⟩, 1, rfl, Nat.le_refl _, by decide, rfl, .inr ⟨w.heap.size, 0, rfl, by simp, fun j u hj => ?_⟩⟩
  rw [Nat.zero_add]
  exact (Ob.new w 83 [.int .i64 1, .int .i64 5, .string ⟨#[]⟩]).cell j hj
set_option maxHeartbeats 8000000 in
set_option maxRecDepth 100000 in
theorem pastLive_c (w : World) : Calls Tryz.prog 6 #[] w fun e w' => e = .returned (.bool true) ∧ Ext w w' := by
  obtain ⟨W1, hW1⟩ : ∃ W1, W1 = w.alloc (.cells #[.string ⟨#[97]⟩, .int .i64 1] 87) := ⟨_, rfl⟩
  have hX1 := hide (show Ext w W1 by rw [hW1]; exact (Ext.refl w).alloc _)
  have hN := hide (pnew_c colA (.slice (some ⟨w.heap.size, 0, none⟩) 1 1) W1 (by rw [hW1]; exact cols_cw w) mayColA (by decide))
  replace hW1 := hide hW1
  obtain ⟨B, hB⟩ : ∃ B, B = W1.heap.size := ⟨_, rfl⟩
  rw [← hB] at hN
  replace hB := hide hB
  go_enter Tryz.func6, Tryz.ntmps6
  go_wp2_with (first
    | (go_at_call 20; refine (cols_c _).mono ?_; rintro ee w1 ⟨rfl, rfl⟩; rw [← hW1.out])
    | (go_at_call 7; refine hN.out.mono ?_; rintro ee w2 ⟨p, mb, rfl, hz2, hX2, hp, hmb⟩; have hs2 : B ≤ w2.heap.size := (by have := hX2.size; rw [hB.out]; exact this); replace hz2 := hide hz2; replace hX2 := hide hX2)
    | (go_at_call 10; first
      | ((with_reducible refine (tk3_c (w5.alloc (.cells #[.int .i64 0, .slice C5 0 c5, .int .i64 0, .int .i64 0, .int .i64 0, .int .i64 0] 39)) (hz5.out.ext ((Ext.refl _).alloc _)) (by simp only [World.size_alloc]; omega) hmb hp).mono ?_); rintro ee w6 ⟨C6, c6, rfl, hz6, hK6, hB6⟩; have hs6 : B ≤ w6.heap.size := (by have := hB6.size; simp only [World.size_alloc] at this; omega); have O6 := hide (hK6.typ _ _ _ (O5.out.ext ((Ext.refl w5).alloc _)) (by decide) (by decide)); have x0 := O6.out.cell 0 rfl; have x4 := O6.out.cell 4 rfl; have x5 := O6.out.cell 5 rfl; haveI : In w3.heap.size w6 := ⟨O6.out.lt⟩; have hcnt0 : Hid (∀ w', Ext w6 w' → Calls Tryz.prog 9 #[.pointer (some ⟨p, 0, none⟩)] w' fun e w'' => e = .returned (.int .i64 0) ∧ Ext w' w'') := (fun w' hX => pcount_c w' (hz6.ext hX)); have hclk : Hid (∀ w', Ext w6 w' → Calls Tryz.prog 13 #[.pointer (some ⟨p, 0, none⟩)] w' fun e w'' => e = .returned (.int .i64 9) ∧ Ext w' w'') := (fun w' hX => pclock_c w' (hz6.ext hX)); have hB6' := hide hB6; clear hz6 hK6 hB6)
      | ((with_reducible refine (tk2_c g4.val b v hz4.out hs4 hmb hp).mono ?_); rintro ee w5 ⟨C5, c5, rfl, hz5, hK5, hB5⟩; have hs5 : B ≤ w5.heap.size := (by have := hB5.size; omega); have O5 := hide (hK5.typ _ _ _ O4.out (by decide) (by decide)); replace hz5 := hide hz5; have hB5' := hide hB5; clear hK5 hB5)
      | ((with_reducible refine (tk1_c (w2.alloc (.cells #[.int .i64 1, .int .i64 5, .string ⟨#[]⟩] 83)) (hz2.out.ext ((Ext.refl _).alloc _)) _ (lrow_rw w2) (by simp only [World.size_alloc]; omega) hmb hp).mono ?_); rintro ee w3 ⟨CA, cc, b, v, rfl, hz3, hK3, hB3⟩; have hs3 : B ≤ w3.heap.size := (by have := hB3.size; simp only [World.size_alloc] at this; omega); have hz3' := hide (hz3.ext ((Ext.refl w3).alloc (.cells #[.int .i64 1, .slice CA 1 cc, .int .i64 0, .int .i64 0, .int .i64 2, .int .i64 9] 39))); have O3 := hide (Ob.new w3 39 [.int .i64 1, .slice CA 1 cc, .int .i64 0, .int .i64 0, .int .i64 2, .int .i64 9]); have hcnt1 : Hid (Calls Tryz.prog 9 #[.pointer (some ⟨p, 0, none⟩)] (w3.alloc (.cells #[.int .i64 1, .slice CA 1 cc, .int .i64 0, .int .i64 0, .int .i64 2, .int .i64 9] 39)) fun e w'' => e = .returned (.int .i64 1) ∧ Ext (w3.alloc (.cells #[.int .i64 1, .slice CA 1 cc, .int .i64 0, .int .i64 0, .int .i64 2, .int .i64 9] 39)) w'') := pcount_c _ hz3'.out; have hB3' := hide hB3; clear hz3 hK3 hB3))
    | (go_at_call 9; first
      | ((with_reducible refine seq_gw (hcnt0.out _ ((Ext.refl w6).alloc _)) ?_); intro g7)
      | ((with_reducible refine seq_gw hcnt1.out ?_); intro g4; have hs4 : B ≤ g4.val.heap.size := (by have := g4.grown.size; simp only [World.size_alloc] at this; omega); have hz4 := hide (hz3'.out.ext g4.grown); have O4 := hide (O3.out.ext g4.grown)))
    | (go_at_call 13; (with_reducible refine seq_gw (hclk.out _ (((Ext.refl w6).alloc _).trans g7.grown)) ?_); intro g8))
  go_returns
  refine ⟨rfl, hX1.out.trans (show Ext W1 g8.val from ?_)⟩
  have e1 : Below B W1 g8.val := ((((((show Below B W1 w2 by rw [hB.out]; exact hX2.out).trans (Below.mono ((Ext.refl w2).alloc (.cells #[.int .i64 1, .int .i64 5, .string ⟨#[]⟩] 83)) hs2)).trans hB3'.out).trans (Below.mono (((Ext.refl w3).alloc (.cells #[.int .i64 1, .slice CA 1 cc, .int .i64 0, .int .i64 0, .int .i64 2, .int .i64 9] 39)).trans g4.grown) hs3)).trans hB5'.out).trans (Below.mono ((Ext.refl w5).alloc (.cells #[.int .i64 0, .slice C5 0 c5, .int .i64 0, .int .i64 0, .int .i64 0, .int .i64 0] 39)) hs5)).trans (hB6'.out.trans (Below.mono ((((Ext.refl w6).alloc (.cells #[.int .i64 0, .slice C6 0 c6, .int .i64 0, .int .i64 0, .int .i64 0, .int .i64 0] 39)).trans g7.grown).trans g8.grown) hs6))
  rw [hB.out] at e1
  exact e1
end Go.Proofs.YtajelkkiijdegaaGreat
