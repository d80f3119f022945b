/-
  A helper of ours: no claim of its own. Layer 8 (msg): a message's fields, read by the code.
-/
import Derived.Test.YthidjngipkelcaaDoorMsgB
import Derived.Test.YthidjngipkelcaaDoorRowR
import Derived.Test.YthidjngipkelcaaDoorReg2
set_option linter.unusedVariables false
set_option linter.unusedSimpArgs false
namespace Go.Proofs.YthidjngipkelcaaDoor
open Go.RowKit
attribute [local go_sem] GW.cell GW.frozen In.eq_true In.le_true In.ne In.ne' In.ne_add In.ne_add' In.lt_add Upto.le_true Upto.le_add Upto.lt_add
set_option maxHeartbeats 4000000 in
set_option maxRecDepth 100000 in
theorem rowRead_bad (S : List Nat) (b : Nat) (l : List UInt8) (e : Int) (he : e ≠ 0) (w : World) (h : Rdr w S b (l, e)) : Calls Tryd.prog 63 #[.pointer (some ⟨b, 0, none⟩)] w fun z w' => ∃ v', z = .returned (.tuple #[v', .int .i64 e]) ∧ OwnR w' w.heap.size v' [] ∧ Rdr w' S b (l, e) ∧ Fr [b] w w' := by
  have hb := h.blt
  have hbS := h.1
  have hR0 := hide h
  clear h
  have hst : Hid (byteSt l e = (l, e)) := hide (by unfold byteSt; rw [if_neg he])
  obtain ⟨n, hn⟩ : ∃ n, n = (byteVal l e).toNat := ⟨_, rfl⟩
  have h255 : (n : Int) ≤ 255 := by have := (byteVal l e).toNat_lt; omega
  replace hn := hide hn
  have e0 : (e != 0) = true := by simp [he]
  clear he
  go_enter Tryd.func63, Tryd.ntmps63
  go_wp2_with (first | (go_at_call 36; refine (rbyte_c _ b l e _ hR0.out).mono ?_; rintro ee w1 ⟨rfl, hR1, hF1⟩; rw [← hn.out]; rw [hst.out] at hR1) | (go_at_call 37; refine (err_c _ b l e _ hR1).mono ?_; rintro ee w9 ⟨rfl, rfl⟩))
  go_returns
  exact ⟨_, rfl, World.ownsRow_nil _ _ _ _, hR1, hF1⟩
set_option maxHeartbeats 8000000 in
set_option maxRecDepth 100000 in
theorem fields_ins (S : List Nat) (b : Nat) (l : List UInt8) (v1 : Nat) (l1 : List UInt8) (e1 : Int) (h1 : Hid (numVal 9 l 0 = v1)) (k1 : Hid (numSt 9 l 0 = (l1, e1))) (v2 : Nat) (l2 : List UInt8) (e2 : Int) (h2 : Hid (numVal 9 l1 e1 = v2)) (k2 : Hid (numSt 9 l1 e1 = (l2, e2))) (v3 : Nat) (l3 : List UInt8) (e3 : Int) (h3 : Hid (numVal 9 l2 e2 = v3)) (k3 : Hid (numSt 9 l2 e2 = (l3, e3))) (RE : Int) (RV : List Vl) (RS : List UInt8 × Int)
    (hrow : Hid (∀ (S' : List Nat) (w' : World), Rdr w' S' b (l3, e3) → Calls Tryd.prog 63 #[.pointer (some ⟨b, 0, none⟩)] w' fun z w'' => ∃ v', z = .returned (.tuple #[v', .int .i64 RE]) ∧ OwnR w'' w'.heap.size v' RV ∧ Rdr w'' S' b RS ∧ Fr [b] w' w''))
    (w : World) (h : Rdr w S b (l, 0)) : Calls Tryd.prog 38 #[.pointer (some ⟨b, 0, none⟩), .int .i64 1] w fun z w' => ∃ v', z = .returned (.tuple #[mg 1 v1 v2 v3 v', .int .i64 RE]) ∧ OwnR w' w.heap.size v' RV ∧ Rdr w' S b RS ∧ Fr [b] w w' := by
  have hb := h.blt
  have hbS := h.1
  have hM : b ≠ w.heap.size + 1 := by omega
  have hM' : b ≠ w.heap.size := by omega
  have hRM : w.heap.size ≠ w.heap.size + 1 := by omega
  have E0 := hide (((Ext.refl w).alloc (mO 0 0 0 0 (.slice none 0 0))).alloc (mO 1 0 0 0 (.slice none 0 0)))
  have R0 := hide (rdr_ext (h.more (S' := w.heap.size :: (w.heap.size + 1) :: S) (by intro x hx; rcases List.mem_cons.1 hx with rfl | hx; exact .inr (Nat.le_refl _); rcases List.mem_cons.1 hx with rfl | hx; exact .inr (by omega); exact .inl hx) (by simp [hbS])) E0.out)
  have OR0 := hide ((Ob.new w 26 [.int .i64 0, .int .i64 0, .int .i64 0, .int .i64 0, .slice none 0 0]).alloc (mO 1 0 0 0 (.slice none 0 0)))
  have OM0 := Ob.new (w.alloc (mO 0 0 0 0 (.slice none 0 0))) 26 [.int .i64 1, .int .i64 0, .int .i64 0, .int .i64 0, .slice none 0 0]
  rw [World.size_alloc] at OM0
  replace OM0 := hide OM0
  have F0 := hide (Fr.of_ext (S := [b]) E0.out)
  clear h
  go_enter Tryd.func38, Tryd.ntmps38
  go_wp2_with (first | (go_at_call 62; refine (rnum_c _ b l 0 _ R0.out).mono ?_; rintro ee w1 ⟨rfl, Ra1, Fa1⟩; rw [h1.out]; rw [k1.out] at Ra1; have OMa1 := OM0.out.fr Fa1 (by simp; omega); have ORa1 := OR0.out.fr Fa1 (by simp; omega); have m10 := OMa1.cell 0 rfl; have z10 := OMa1.free 0; have r10 := ORa1.cell 0 rfl; have y10 := ORa1.free 0; have m11 := OMa1.cell 1 rfl; have z11 := OMa1.free 1; have r11 := ORa1.cell 1 rfl; have y11 := ORa1.free 1; have m12 := OMa1.cell 2 rfl; have z12 := OMa1.free 2; have r12 := ORa1.cell 2 rfl; have y12 := ORa1.free 2; have m13 := OMa1.cell 3 rfl; have z13 := OMa1.free 3; have r13 := ORa1.cell 3 rfl; have y13 := ORa1.free 3; have m14 := OMa1.cell 4 rfl; have z14 := OMa1.free 4; have r14 := ORa1.cell 4 rfl; have y14 := ORa1.free 4; have lt1 := OMa1.lt; have lr1 := ORa1.lt; haveI : In (w.heap.size + 1) w1 := ⟨lt1⟩; haveI : In w.heap.size w1 := ⟨lr1⟩; have R1 := hide (Rdr.fr Ra1 (S' := [w.heap.size + 1]) ((Fr.refl [w.heap.size + 1] w1).setCell ⟨w.heap.size + 1, 1, none⟩ (.int .i64 v1) (.inl (by simp))) (by simp; omega) (by simp)); have OM1 := hide (OMa1.set 1 (.int .i64 v1)); have OR1 := hide (ORa1.far ⟨w.heap.size + 1, 1, none⟩ (.int .i64 v1) hRM); have F1 := hide ((F0.out.trans Fa1).setCell ⟨w.heap.size + 1, 1, none⟩ (.int .i64 v1) (.inr (by show w.heap.size ≤ w.heap.size + 1; omega)))) | (go_at_call 62; refine (rnum_c _ b l1 e1 _ R1.out).mono ?_; rintro ee w2 ⟨rfl, Ra2, Fa2⟩; rw [h2.out]; rw [k2.out] at Ra2; have OMa2 := OM1.out.fr Fa2 (by simp; omega); have ORa2 := OR1.out.fr Fa2 (by simp; omega); have m20 := OMa2.cell 0 rfl; have z20 := OMa2.free 0; have r20 := ORa2.cell 0 rfl; have y20 := ORa2.free 0; have m21 := OMa2.cell 1 rfl; have z21 := OMa2.free 1; have r21 := ORa2.cell 1 rfl; have y21 := ORa2.free 1; have m22 := OMa2.cell 2 rfl; have z22 := OMa2.free 2; have r22 := ORa2.cell 2 rfl; have y22 := ORa2.free 2; have m23 := OMa2.cell 3 rfl; have z23 := OMa2.free 3; have r23 := ORa2.cell 3 rfl; have y23 := ORa2.free 3; have m24 := OMa2.cell 4 rfl; have z24 := OMa2.free 4; have r24 := ORa2.cell 4 rfl; have y24 := ORa2.free 4; have lt2 := OMa2.lt; have lr2 := ORa2.lt; haveI : In (w.heap.size + 1) w2 := ⟨lt2⟩; haveI : In w.heap.size w2 := ⟨lr2⟩; have R2 := hide (Rdr.fr Ra2 (S' := [w.heap.size + 1]) ((Fr.refl [w.heap.size + 1] w2).setCell ⟨w.heap.size + 1, 2, none⟩ (.int .i64 v2) (.inl (by simp))) (by simp; omega) (by simp)); have OM2 := hide (OMa2.set 2 (.int .i64 v2)); have OR2 := hide (ORa2.far ⟨w.heap.size + 1, 2, none⟩ (.int .i64 v2) hRM); have F2 := hide ((F1.out.trans Fa2).setCell ⟨w.heap.size + 1, 2, none⟩ (.int .i64 v2) (.inr (by show w.heap.size ≤ w.heap.size + 1; omega)))) | (go_at_call 62; refine (rnum_c _ b l2 e2 _ R2.out).mono ?_; rintro ee w3 ⟨rfl, Ra3, Fa3⟩; rw [h3.out]; rw [k3.out] at Ra3; have OMa3 := OM2.out.fr Fa3 (by simp; omega); have ORa3 := OR2.out.fr Fa3 (by simp; omega); have m30 := OMa3.cell 0 rfl; have z30 := OMa3.free 0; have r30 := ORa3.cell 0 rfl; have y30 := ORa3.free 0; have m31 := OMa3.cell 1 rfl; have z31 := OMa3.free 1; have r31 := ORa3.cell 1 rfl; have y31 := ORa3.free 1; have m32 := OMa3.cell 2 rfl; have z32 := OMa3.free 2; have r32 := ORa3.cell 2 rfl; have y32 := ORa3.free 2; have m33 := OMa3.cell 3 rfl; have z33 := OMa3.free 3; have r33 := ORa3.cell 3 rfl; have y33 := ORa3.free 3; have m34 := OMa3.cell 4 rfl; have z34 := OMa3.free 4; have r34 := ORa3.cell 4 rfl; have y34 := ORa3.free 4; have lt3 := OMa3.lt; have lr3 := ORa3.lt; haveI : In (w.heap.size + 1) w3 := ⟨lt3⟩; haveI : In w.heap.size w3 := ⟨lr3⟩; have R3 := hide (Rdr.fr Ra3 (S' := [w.heap.size + 1]) ((Fr.refl [w.heap.size + 1] w3).setCell ⟨w.heap.size + 1, 3, none⟩ (.int .i64 v3) (.inl (by simp))) (by simp; omega) (by simp)); have OM3 := hide (OMa3.set 3 (.int .i64 v3)); have OR3 := hide (ORa3.far ⟨w.heap.size + 1, 3, none⟩ (.int .i64 v3) hRM); have F3 := hide ((F2.out.trans Fa3).setCell ⟨w.heap.size + 1, 3, none⟩ (.int .i64 v3) (.inr (by show w.heap.size ≤ w.heap.size + 1; omega)))) | (go_at_call 63; refine (hrow.out _ _ R3.out).mono ?_; rintro ee w4 ⟨v4, rfl, ho4, Ra4, Fa4⟩; obtain ⟨A4, c4, rfl⟩ := own_form ho4; have OMa4 := OM3.out.fr Fa4 (by simp; omega); have ORa4 := OR3.out.fr Fa4 (by simp; omega); have m40 := OMa4.cell 0 rfl; have z40 := OMa4.free 0; have r40 := ORa4.cell 0 rfl; have y40 := ORa4.free 0; have m41 := OMa4.cell 1 rfl; have z41 := OMa4.free 1; have r41 := ORa4.cell 1 rfl; have y41 := ORa4.free 1; have m42 := OMa4.cell 2 rfl; have z42 := OMa4.free 2; have r42 := ORa4.cell 2 rfl; have y42 := ORa4.free 2; have m43 := OMa4.cell 3 rfl; have z43 := OMa4.free 3; have r43 := ORa4.cell 3 rfl; have y43 := ORa4.free 3; have m44 := OMa4.cell 4 rfl; have z44 := OMa4.free 4; have r44 := ORa4.cell 4 rfl; have y44 := ORa4.free 4; have lt4 := OMa4.lt; have lr4 := ORa4.lt; haveI : In (w.heap.size + 1) w4 := ⟨lt4⟩; haveI : In w.heap.size w4 := ⟨lr4⟩; have hb4 := F3.out.size; have Ra4' := hide Ra4; have F4 := hide (F3.out.trans Fa4)))
  refine bodyPost_ret (by simp [results, Tryd.results38, go_sem, m40, z40, r40, y40, m41, z41, r41, y41, m42, z42, r42, y42, m43, z43, r43, y43, m44, z44, r44, y44, hRM, hRM.symm]; try rfl) rfl ?_
  have hF5 := ((((((Fr.refl [w.heap.size, w.heap.size + 1] w4).setCell ⟨w.heap.size + 1, 4, none⟩ (.slice A4 RV.length c4) (.inl (by simp))).setCell ⟨w.heap.size, 0, none⟩ (.int .i64 1) (.inl (by simp))).setCell ⟨w.heap.size, 1, none⟩ (.int .i64 v1) (.inl (by simp))).setCell ⟨w.heap.size, 2, none⟩ (.int .i64 v2) (.inl (by simp))).setCell ⟨w.heap.size, 3, none⟩ (.int .i64 v3) (.inl (by simp))).setCell ⟨w.heap.size, 4, none⟩ (.slice A4 RV.length c4) (.inl (by simp))
  exact ⟨_, rfl, own_base (own_fr ho4 hF5 (by intro x hx; simp at hx; simp only [World.size_setCell]; omega)) hb4, (Rdr.fr Ra4'.out hF5 (by simp; omega) (by intro x hx; simp at hx ⊢; rcases hx with h | h <;> simp [h])).less (fun x hx => by simp [hx]) hbS, F4.out.then hF5 (by intro x hx; simp at hx; exact .inr (by omega))⟩
set_option maxHeartbeats 8000000 in
set_option maxRecDepth 100000 in
theorem fields_ret (S : List Nat) (b : Nat) (l : List UInt8) (v1 : Nat) (l1 : List UInt8) (e1 : Int) (h1 : Hid (numVal 9 l 0 = v1)) (k1 : Hid (numSt 9 l 0 = (l1, e1))) (v2 : Nat) (l2 : List UInt8) (e2 : Int) (h2 : Hid (numVal 9 l1 e1 = v2)) (k2 : Hid (numSt 9 l1 e1 = (l2, e2))) (w : World) (h : Rdr w S b (l, 0)) : Calls Tryd.prog 38 #[.pointer (some ⟨b, 0, none⟩), .int .i64 2] w fun z w' => z = .returned (.tuple #[.agg #[.int .i64 2, .int .i64 v1, .int .i64 0, .int .i64 v2, .slice none 0 0], .int .i64 e2]) ∧ Rdr w' S b (l2, e2) ∧ Fr [b] w w' := by
  have hb := h.blt
  have hbS := h.1
  have hM : b ≠ w.heap.size + 1 := by omega
  have hM' : b ≠ w.heap.size := by omega
  have hRM : w.heap.size ≠ w.heap.size + 1 := by omega
  have E0 := hide (((Ext.refl w).alloc (mO 0 0 0 0 (.slice none 0 0))).alloc (mO 2 0 0 0 (.slice none 0 0)))
  have R0 := hide (rdr_ext (h.more (S' := w.heap.size :: (w.heap.size + 1) :: S) (by intro x hx; rcases List.mem_cons.1 hx with rfl | hx; exact .inr (Nat.le_refl _); rcases List.mem_cons.1 hx with rfl | hx; exact .inr (by omega); exact .inl hx) (by simp [hbS])) E0.out)
  have OR0 := hide ((Ob.new w 26 [.int .i64 0, .int .i64 0, .int .i64 0, .int .i64 0, .slice none 0 0]).alloc (mO 2 0 0 0 (.slice none 0 0)))
  have OM0 := Ob.new (w.alloc (mO 0 0 0 0 (.slice none 0 0))) 26 [.int .i64 2, .int .i64 0, .int .i64 0, .int .i64 0, .slice none 0 0]
  rw [World.size_alloc] at OM0
  replace OM0 := hide OM0
  have F0 := hide (Fr.of_ext (S := [b]) E0.out)
  clear h
  go_enter Tryd.func38, Tryd.ntmps38
  go_wp2_with (first | (go_at_call 62; refine (rnum_c _ b l 0 _ R0.out).mono ?_; rintro ee w1 ⟨rfl, Ra1, Fa1⟩; rw [h1.out]; rw [k1.out] at Ra1; have OMa1 := OM0.out.fr Fa1 (by simp; omega); have ORa1 := OR0.out.fr Fa1 (by simp; omega); have m10 := OMa1.cell 0 rfl; have z10 := OMa1.free 0; have r10 := ORa1.cell 0 rfl; have y10 := ORa1.free 0; have m11 := OMa1.cell 1 rfl; have z11 := OMa1.free 1; have r11 := ORa1.cell 1 rfl; have y11 := ORa1.free 1; have m12 := OMa1.cell 2 rfl; have z12 := OMa1.free 2; have r12 := ORa1.cell 2 rfl; have y12 := ORa1.free 2; have m13 := OMa1.cell 3 rfl; have z13 := OMa1.free 3; have r13 := ORa1.cell 3 rfl; have y13 := ORa1.free 3; have m14 := OMa1.cell 4 rfl; have z14 := OMa1.free 4; have r14 := ORa1.cell 4 rfl; have y14 := ORa1.free 4; have lt1 := OMa1.lt; have lr1 := ORa1.lt; haveI : In (w.heap.size + 1) w1 := ⟨lt1⟩; haveI : In w.heap.size w1 := ⟨lr1⟩; have R1 := hide (Rdr.fr Ra1 (S' := [w.heap.size + 1]) ((Fr.refl [w.heap.size + 1] w1).setCell ⟨w.heap.size + 1, 1, none⟩ (.int .i64 v1) (.inl (by simp))) (by simp; omega) (by simp)); have OM1 := hide (OMa1.set 1 (.int .i64 v1)); have OR1 := hide (ORa1.far ⟨w.heap.size + 1, 1, none⟩ (.int .i64 v1) hRM); have F1 := hide ((F0.out.trans Fa1).setCell ⟨w.heap.size + 1, 1, none⟩ (.int .i64 v1) (.inr (by show w.heap.size ≤ w.heap.size + 1; omega)))) | (go_at_call 62; refine (rnum_c _ b l1 e1 _ R1.out).mono ?_; rintro ee w2 ⟨rfl, Ra2, Fa2⟩; rw [h2.out]; rw [k2.out] at Ra2; have OMa2 := OM1.out.fr Fa2 (by simp; omega); have ORa2 := OR1.out.fr Fa2 (by simp; omega); have m20 := OMa2.cell 0 rfl; have z20 := OMa2.free 0; have r20 := ORa2.cell 0 rfl; have y20 := ORa2.free 0; have m21 := OMa2.cell 1 rfl; have z21 := OMa2.free 1; have r21 := ORa2.cell 1 rfl; have y21 := ORa2.free 1; have m22 := OMa2.cell 2 rfl; have z22 := OMa2.free 2; have r22 := ORa2.cell 2 rfl; have y22 := ORa2.free 2; have m23 := OMa2.cell 3 rfl; have z23 := OMa2.free 3; have r23 := ORa2.cell 3 rfl; have y23 := ORa2.free 3; have m24 := OMa2.cell 4 rfl; have z24 := OMa2.free 4; have r24 := ORa2.cell 4 rfl; have y24 := ORa2.free 4; have lt2 := OMa2.lt; have lr2 := ORa2.lt; haveI : In (w.heap.size + 1) w2 := ⟨lt2⟩; haveI : In w.heap.size w2 := ⟨lr2⟩; have R2 := hide (Rdr.fr Ra2 (S' := [w.heap.size + 1]) ((Fr.refl [w.heap.size + 1] w2).setCell ⟨w.heap.size + 1, 3, none⟩ (.int .i64 v2) (.inl (by simp))) (by simp; omega) (by simp)); have OM2 := hide (OMa2.set 3 (.int .i64 v2)); have OR2 := hide (ORa2.far ⟨w.heap.size + 1, 3, none⟩ (.int .i64 v2) hRM); have F2 := hide ((F1.out.trans Fa2).setCell ⟨w.heap.size + 1, 3, none⟩ (.int .i64 v2) (.inr (by show w.heap.size ≤ w.heap.size + 1; omega)))))
  have hF5 := (((((((Fr.refl [w.heap.size, w.heap.size + 1] w2).setCell ⟨w.heap.size + 1, 3, none⟩ (.int .i64 v2) (.inl (by simp))).setCell ⟨w.heap.size, 0, none⟩ (.int .i64 2) (.inl (by simp))).setCell ⟨w.heap.size, 1, none⟩ (.int .i64 v1) (.inl (by simp))).setCell ⟨w.heap.size, 2, none⟩ (.int .i64 0) (.inl (by simp))).setCell ⟨w.heap.size, 3, none⟩ (.int .i64 v2) (.inl (by simp))).setCell ⟨w.heap.size, 4, none⟩ (.slice none 0 0) (.inl (by simp)))
  have RE := hide (Rdr.fr Ra2 hF5 (by simp; omega) (by intro x hx; simp at hx ⊢; rcases hx with h | h <;> simp [h]))
  have FE := hide ((F1.out.trans Fa2).then hF5 (by intro x hx; simp at hx; exact .inr (by omega)))
  clear Ra2 hF5
  have OMn : Ob _ (w.heap.size + 1) 26 [.int .i64 2, .int .i64 v1, .int .i64 0, .int .i64 v2, .slice none 0 0] := OM2.out
  have ORn : Ob _ w.heap.size 26 [.int .i64 0, .int .i64 0, .int .i64 0, .int .i64 0, .slice none 0 0] := OR2.out
  clear RE FE
  have FX := hide F2.out
  refine wp_region_objs (S := [w.heap.size]) [.is (.agg #[.int .i64 2, .int .i64 v1, .int .i64 0, .int .i64 v2, .slice none 0 0]), .is (.pointer (some ⟨b, 0, none⟩)), .is (.int .i64 e2), .any, .is (.int .i64 e2)] (fun Lf ww => Ob ww (w.heap.size + 1) 26 [.int .i64 2, .int .i64 v1, .int .i64 0, .int .i64 v2, .slice none 0 0] ∧ Rdr ww (w.heap.size :: (w.heap.size + 1) :: S) b (l2, e2) ∧ (∃ z0 z1 z2 z3 z4 : Value, Ob ww w.heap.size 26 [z0, z1, z2, z3, z4] ∧ (Lf 3 = true → [z0, z1, z2, z3, z4] = [.int .i64 2, .int .i64 v1, .int .i64 0, .int .i64 v2, .slice none 0 0]))) [3] (by kernel_rfl) (by kernel_rfl) (by kernel_rfl) (fun _ x y h k => by obtain ⟨h1, h2, z0, z1, z2, z3, z4, h3, h4⟩ := h; exact ⟨h1.ext k, rdr_ext h2 k, z0, z1, z2, z3, z4, h3.ext k, h4⟩) (fun L1 L2 x hk h => by obtain ⟨h1, h2, z0, z1, z2, z3, z4, h3, h4⟩ := h; exact ⟨h1, h2, z0, z1, z2, z3, z4, h3, fun h5 => h4 (by rw [hk 3 (by simp)]; exact h5)⟩) ⟨OMn, R2.out, _, _, _, _, _, ORn, fun h => by cases h⟩ ?_ ?_
  · refine ⟨?_, ?_, ?_, ?_, ?_, trivial⟩
    · intro b' w' Lf h
      have f6 : b'.tmps.getD 6 undef = (.pointer (some ⟨w.heap.size + 1, 0, none⟩)) := h.else_ 6 (of_decide_eq_true (by kernel_rfl))
      obtain ⟨hO, -, -⟩ := h.obj
      have n0 := hO.cell 0 rfl; have n1 := hO.cell 1 rfl; have n2 := hO.cell 2 rfl; have n3 := hO.cell 3 rfl; have n4 := hO.cell 4 rfl
      exact .inl ⟨by decide, good_load (wanted_none rfl) rfl f6 (v := .agg #[.int .i64 2, .int .i64 v1, .int .i64 0, .int .i64 v2, .slice none 0 0]) (by simp [go_sem, n0, n1, n2, n3, n4]; try rfl) rfl⟩
    · intro b' w' Lf h
      have f0 : b'.tmps.getD 0 undef = (.pointer (some ⟨b, 0, none⟩)) := h.else_ 0 (of_decide_eq_true (by kernel_rfl))
      exact .inl ⟨by decide, good_move (wanted_none rfl) rfl f0⟩
    · intro b' w' Lf h
      have f45 : b'.tmps.getD 45 undef = (.pointer (some ⟨b, 0, none⟩)) := h.dep 1 _ 45 (by kernel_rfl) rfl rfl
      refine .inl ⟨by decide, good_call (wanted_none rfl) rfl (enters Tryd.func37 (by kernel_rfl) rfl) ?_⟩
      rw [show (#[.tmp 45] : Array Operand).map b'.eval = #[(.pointer (some ⟨b, 0, none⟩))] by simp [Act.eval, f45]]
      exact (err_c _ b _ _ _ h.obj.2.1).mono fun e w1 ⟨he, hx⟩ => ⟨_, he, rfl, hx ▸ Ext.refl _⟩
    · intro b' w' Lf h
      have f44 : b'.tmps.getD 44 undef = .agg #[.int .i64 2, .int .i64 v1, .int .i64 0, .int .i64 v2, .slice none 0 0] := h.dep 0 _ 44 (by kernel_rfl) rfl rfl
      have f4 : b'.tmps.getD 4 undef = (.pointer (some ⟨w.heap.size, 0, none⟩)) := h.else_ 4 (of_decide_eq_true (by kernel_rfl))
      obtain ⟨hO, hR, z0, z1, z2, z3, z4, hZ, -⟩ := h.obj
      have n0 := hZ.cell 0 rfl; have n1 := hZ.cell 1 rfl; have n2 := hZ.cell 2 rfl; have n3 := hZ.cell 3 rfl; have n4 := hZ.cell 4 rfl
      have x0 := hZ.free 0; have x1 := hZ.free 1; have x2 := hZ.free 2; have x3 := hZ.free 3; have x4 := hZ.free 4
      have hlt' := hZ.lt
      refine .inr (.inl ⟨wanted_none rfl, ?_⟩)
      unfold Oper.wp
      simp [execOp, Act.eval, f44, f4, go_sem, n0, n1, n2, n3, n4, x0, x1, x2, x3, x4, hlt']
      have hF := ((((((Fr.refl [w.heap.size] w').setCell ⟨w.heap.size, 0, none⟩ (.int .i64 2) (.inl (by simp))).setCell ⟨w.heap.size, 1, none⟩ (.int .i64 v1) (.inl (by simp))).setCell ⟨w.heap.size, 2, none⟩ (.int .i64 0) (.inl (by simp))).setCell ⟨w.heap.size, 3, none⟩ (.int .i64 v2) (.inl (by simp))).setCell ⟨w.heap.size, 4, none⟩ (.slice none 0 0) (.inl (by simp)))
      exact ⟨⟨undef, trivial⟩, hF, hO.fr hF (by simp), Rdr.fr hR hF (by simp; omega) (by intro x hx; simp at hx ⊢; simp [hx]), _, _, _, _, _, ((((hZ.set 0 _).set 1 _).set 2 _).set 3 _).set 4 _, fun _ => by simp⟩
    · intro b' w' Lf h
      have f : b'.tmps.getD 46 undef = (.int .i64 e2) := h.dep 2 _ 46 (by kernel_rfl) rfl rfl
      exact .inl ⟨by decide, good_assign (wanted_none rfl) rfl f⟩
  intro b1 w7 hF7 hd7 hz7 he7 hf7 hJ7
  obtain ⟨-, hR7, z0, z1, z2, z3, z4, hO7, hV7⟩ := hJ7 (fun j => decide (j < 5)) (by intro j hj; simpa using hj) (by intro j hj; simpa using hj)
  have hV := hV7 rfl
  simp only [List.cons.injEq, and_true] at hV
  obtain ⟨rfl, rfl, rfl, rfl, rfl⟩ := hV
  clear hV7
  have f5 : b1.tmps.getD 5 undef = (.int .i64 e2) := hf7 4 _ 5 rfl rfl
  have k0 := hO7.cell 0 rfl; have k1 := hO7.cell 1 rfl; have k2 := hO7.cell 2 rfl; have k3 := hO7.cell 3 rfl; have k4 := hO7.cell 4 rfl
  have e := frame_puts hd7 hz7 he7
  obtain ⟨x, hx⟩ : ∃ x : Nat → Value, ∀ d, b1.tmps.getD d undef = x d := ⟨_, fun _ => rfl⟩
  rw [show dstsOf _ = [44, 45, 46, 5] from rfl] at e
  simp only [List.foldl_cons, List.foldl_nil, hx, Act.put, List.setIfInBounds_toArray, List.set_cons_succ, List.set_cons_zero] at e f5
  rw [f5] at e
  clear hf7 hJ7 he7 hz7 hd7 hx
  subst e
  clear f5
  go_wp2_with fail
  refine bodyPost_ret (by simp [results, Tryd.results38, go_sem, k0, k1, k2, k3, k4]; try rfl) rfl ?_
  exact ⟨rfl, hR7.less (fun x hx => by simp [hx]) hbS, FX.out.then hF7 (fun x hx => .inr (by simp at hx; omega))⟩
set_option maxHeartbeats 8000000 in
set_option maxRecDepth 100000 in
theorem fields_cti (S : List Nat) (b : Nat) (l : List UInt8) (v1 : Nat) (l1 : List UInt8) (e1 : Int) (h1 : Hid (numVal 9 l 0 = v1)) (k1 : Hid (numSt 9 l 0 = (l1, e1))) (w : World) (h : Rdr w S b (l, 0)) : Calls Tryd.prog 38 #[.pointer (some ⟨b, 0, none⟩), .int .i64 3] w fun z w' => z = .returned (.tuple #[.agg #[.int .i64 3, .int .i64 0, .int .i64 v1, .int .i64 0, .slice none 0 0], .int .i64 e1]) ∧ Rdr w' S b (l1, e1) ∧ Fr [b] w w' := by
  have hb := h.blt
  have hbS := h.1
  have hM : b ≠ w.heap.size + 1 := by omega
  have hM' : b ≠ w.heap.size := by omega
  have hRM : w.heap.size ≠ w.heap.size + 1 := by omega
  have E0 := hide (((Ext.refl w).alloc (mO 0 0 0 0 (.slice none 0 0))).alloc (mO 3 0 0 0 (.slice none 0 0)))
  have R0 := hide (rdr_ext (h.more (S' := w.heap.size :: (w.heap.size + 1) :: S) (by intro x hx; rcases List.mem_cons.1 hx with rfl | hx; exact .inr (Nat.le_refl _); rcases List.mem_cons.1 hx with rfl | hx; exact .inr (by omega); exact .inl hx) (by simp [hbS])) E0.out)
  have OR0 := hide ((Ob.new w 26 [.int .i64 0, .int .i64 0, .int .i64 0, .int .i64 0, .slice none 0 0]).alloc (mO 3 0 0 0 (.slice none 0 0)))
  have OM0 := Ob.new (w.alloc (mO 0 0 0 0 (.slice none 0 0))) 26 [.int .i64 3, .int .i64 0, .int .i64 0, .int .i64 0, .slice none 0 0]
  rw [World.size_alloc] at OM0
  replace OM0 := hide OM0
  have F0 := hide (Fr.of_ext (S := [b]) E0.out)
  clear h
  go_enter Tryd.func38, Tryd.ntmps38
  go_wp2_with (first | (go_at_call 62; refine (rnum_c _ b l 0 _ R0.out).mono ?_; rintro ee w1 ⟨rfl, Ra1, Fa1⟩; rw [h1.out]; rw [k1.out] at Ra1; have OMa1 := OM0.out.fr Fa1 (by simp; omega); have ORa1 := OR0.out.fr Fa1 (by simp; omega); have m10 := OMa1.cell 0 rfl; have z10 := OMa1.free 0; have r10 := ORa1.cell 0 rfl; have y10 := ORa1.free 0; have m11 := OMa1.cell 1 rfl; have z11 := OMa1.free 1; have r11 := ORa1.cell 1 rfl; have y11 := ORa1.free 1; have m12 := OMa1.cell 2 rfl; have z12 := OMa1.free 2; have r12 := ORa1.cell 2 rfl; have y12 := ORa1.free 2; have m13 := OMa1.cell 3 rfl; have z13 := OMa1.free 3; have r13 := ORa1.cell 3 rfl; have y13 := ORa1.free 3; have m14 := OMa1.cell 4 rfl; have z14 := OMa1.free 4; have r14 := ORa1.cell 4 rfl; have y14 := ORa1.free 4; have lt1 := OMa1.lt; have lr1 := ORa1.lt; haveI : In (w.heap.size + 1) w1 := ⟨lt1⟩; haveI : In w.heap.size w1 := ⟨lr1⟩; have R1 := hide (Rdr.fr Ra1 (S' := [w.heap.size + 1]) ((Fr.refl [w.heap.size + 1] w1).setCell ⟨w.heap.size + 1, 2, none⟩ (.int .i64 v1) (.inl (by simp))) (by simp; omega) (by simp)); have OM1 := hide (OMa1.set 2 (.int .i64 v1)); have OR1 := hide (ORa1.far ⟨w.heap.size + 1, 2, none⟩ (.int .i64 v1) hRM); have F1 := hide ((F0.out.trans Fa1).setCell ⟨w.heap.size + 1, 2, none⟩ (.int .i64 v1) (.inr (by show w.heap.size ≤ w.heap.size + 1; omega)))))
  have hF5 := (((((((Fr.refl [w.heap.size, w.heap.size + 1] w1).setCell ⟨w.heap.size + 1, 2, none⟩ (.int .i64 v1) (.inl (by simp))).setCell ⟨w.heap.size, 0, none⟩ (.int .i64 3) (.inl (by simp))).setCell ⟨w.heap.size, 1, none⟩ (.int .i64 0) (.inl (by simp))).setCell ⟨w.heap.size, 2, none⟩ (.int .i64 v1) (.inl (by simp))).setCell ⟨w.heap.size, 3, none⟩ (.int .i64 0) (.inl (by simp))).setCell ⟨w.heap.size, 4, none⟩ (.slice none 0 0) (.inl (by simp)))
  have RE := hide (Rdr.fr Ra1 hF5 (by simp; omega) (by intro x hx; simp at hx ⊢; rcases hx with h | h <;> simp [h]))
  have FE := hide ((F0.out.trans Fa1).then hF5 (by intro x hx; simp at hx; exact .inr (by omega)))
  clear Ra1 hF5
  have OMn : Ob _ (w.heap.size + 1) 26 [.int .i64 3, .int .i64 0, .int .i64 v1, .int .i64 0, .slice none 0 0] := OM1.out
  have ORn : Ob _ w.heap.size 26 [.int .i64 0, .int .i64 0, .int .i64 0, .int .i64 0, .slice none 0 0] := OR1.out
  clear RE FE
  have FX := hide F1.out
  refine wp_region_objs (S := [w.heap.size]) [.is (.agg #[.int .i64 3, .int .i64 0, .int .i64 v1, .int .i64 0, .slice none 0 0]), .is (.pointer (some ⟨b, 0, none⟩)), .is (.int .i64 e1), .any, .is (.int .i64 e1)] (fun Lf ww => Ob ww (w.heap.size + 1) 26 [.int .i64 3, .int .i64 0, .int .i64 v1, .int .i64 0, .slice none 0 0] ∧ Rdr ww (w.heap.size :: (w.heap.size + 1) :: S) b (l1, e1) ∧ (∃ z0 z1 z2 z3 z4 : Value, Ob ww w.heap.size 26 [z0, z1, z2, z3, z4] ∧ (Lf 3 = true → [z0, z1, z2, z3, z4] = [.int .i64 3, .int .i64 0, .int .i64 v1, .int .i64 0, .slice none 0 0]))) [3] (by kernel_rfl) (by kernel_rfl) (by kernel_rfl) (fun _ x y h k => by obtain ⟨h1, h2, z0, z1, z2, z3, z4, h3, h4⟩ := h; exact ⟨h1.ext k, rdr_ext h2 k, z0, z1, z2, z3, z4, h3.ext k, h4⟩) (fun L1 L2 x hk h => by obtain ⟨h1, h2, z0, z1, z2, z3, z4, h3, h4⟩ := h; exact ⟨h1, h2, z0, z1, z2, z3, z4, h3, fun h5 => h4 (by rw [hk 3 (by simp)]; exact h5)⟩) ⟨OMn, R1.out, _, _, _, _, _, ORn, fun h => by cases h⟩ ?_ ?_
  · refine ⟨?_, ?_, ?_, ?_, ?_, trivial⟩
    · intro b' w' Lf h
      have f6 : b'.tmps.getD 6 undef = (.pointer (some ⟨w.heap.size + 1, 0, none⟩)) := h.else_ 6 (of_decide_eq_true (by kernel_rfl))
      obtain ⟨hO, -, -⟩ := h.obj
      have n0 := hO.cell 0 rfl; have n1 := hO.cell 1 rfl; have n2 := hO.cell 2 rfl; have n3 := hO.cell 3 rfl; have n4 := hO.cell 4 rfl
      exact .inl ⟨by decide, good_load (wanted_none rfl) rfl f6 (v := .agg #[.int .i64 3, .int .i64 0, .int .i64 v1, .int .i64 0, .slice none 0 0]) (by simp [go_sem, n0, n1, n2, n3, n4]; try rfl) rfl⟩
    · intro b' w' Lf h
      have f0 : b'.tmps.getD 0 undef = (.pointer (some ⟨b, 0, none⟩)) := h.else_ 0 (of_decide_eq_true (by kernel_rfl))
      exact .inl ⟨by decide, good_move (wanted_none rfl) rfl f0⟩
    · intro b' w' Lf h
      have f45 : b'.tmps.getD 45 undef = (.pointer (some ⟨b, 0, none⟩)) := h.dep 1 _ 45 (by kernel_rfl) rfl rfl
      refine .inl ⟨by decide, good_call (wanted_none rfl) rfl (enters Tryd.func37 (by kernel_rfl) rfl) ?_⟩
      rw [show (#[.tmp 45] : Array Operand).map b'.eval = #[(.pointer (some ⟨b, 0, none⟩))] by simp [Act.eval, f45]]
      exact (err_c _ b _ _ _ h.obj.2.1).mono fun e w1 ⟨he, hx⟩ => ⟨_, he, rfl, hx ▸ Ext.refl _⟩
    · intro b' w' Lf h
      have f44 : b'.tmps.getD 44 undef = .agg #[.int .i64 3, .int .i64 0, .int .i64 v1, .int .i64 0, .slice none 0 0] := h.dep 0 _ 44 (by kernel_rfl) rfl rfl
      have f4 : b'.tmps.getD 4 undef = (.pointer (some ⟨w.heap.size, 0, none⟩)) := h.else_ 4 (of_decide_eq_true (by kernel_rfl))
      obtain ⟨hO, hR, z0, z1, z2, z3, z4, hZ, -⟩ := h.obj
      have n0 := hZ.cell 0 rfl; have n1 := hZ.cell 1 rfl; have n2 := hZ.cell 2 rfl; have n3 := hZ.cell 3 rfl; have n4 := hZ.cell 4 rfl
      have x0 := hZ.free 0; have x1 := hZ.free 1; have x2 := hZ.free 2; have x3 := hZ.free 3; have x4 := hZ.free 4
      have hlt' := hZ.lt
      refine .inr (.inl ⟨wanted_none rfl, ?_⟩)
      unfold Oper.wp
      simp [execOp, Act.eval, f44, f4, go_sem, n0, n1, n2, n3, n4, x0, x1, x2, x3, x4, hlt']
      have hF := ((((((Fr.refl [w.heap.size] w').setCell ⟨w.heap.size, 0, none⟩ (.int .i64 3) (.inl (by simp))).setCell ⟨w.heap.size, 1, none⟩ (.int .i64 0) (.inl (by simp))).setCell ⟨w.heap.size, 2, none⟩ (.int .i64 v1) (.inl (by simp))).setCell ⟨w.heap.size, 3, none⟩ (.int .i64 0) (.inl (by simp))).setCell ⟨w.heap.size, 4, none⟩ (.slice none 0 0) (.inl (by simp)))
      exact ⟨⟨undef, trivial⟩, hF, hO.fr hF (by simp), Rdr.fr hR hF (by simp; omega) (by intro x hx; simp at hx ⊢; simp [hx]), _, _, _, _, _, ((((hZ.set 0 _).set 1 _).set 2 _).set 3 _).set 4 _, fun _ => by simp⟩
    · intro b' w' Lf h
      have f : b'.tmps.getD 46 undef = (.int .i64 e1) := h.dep 2 _ 46 (by kernel_rfl) rfl rfl
      exact .inl ⟨by decide, good_assign (wanted_none rfl) rfl f⟩
  intro b1 w7 hF7 hd7 hz7 he7 hf7 hJ7
  obtain ⟨-, hR7, z0, z1, z2, z3, z4, hO7, hV7⟩ := hJ7 (fun j => decide (j < 5)) (by intro j hj; simpa using hj) (by intro j hj; simpa using hj)
  have hV := hV7 rfl
  simp only [List.cons.injEq, and_true] at hV
  obtain ⟨rfl, rfl, rfl, rfl, rfl⟩ := hV
  clear hV7
  have f5 : b1.tmps.getD 5 undef = (.int .i64 e1) := hf7 4 _ 5 rfl rfl
  have k0 := hO7.cell 0 rfl; have k1 := hO7.cell 1 rfl; have k2 := hO7.cell 2 rfl; have k3 := hO7.cell 3 rfl; have k4 := hO7.cell 4 rfl
  have e := frame_puts hd7 hz7 he7
  obtain ⟨x, hx⟩ : ∃ x : Nat → Value, ∀ d, b1.tmps.getD d undef = x d := ⟨_, fun _ => rfl⟩
  rw [show dstsOf _ = [44, 45, 46, 5] from rfl] at e
  simp only [List.foldl_cons, List.foldl_nil, hx, Act.put, List.setIfInBounds_toArray, List.set_cons_succ, List.set_cons_zero] at e f5
  rw [f5] at e
  clear hf7 hJ7 he7 hz7 hd7 hx
  subst e
  clear f5
  go_wp2_with fail
  refine bodyPost_ret (by simp [results, Tryd.results38, go_sem, k0, k1, k2, k3, k4]; try rfl) rfl ?_
  exact ⟨rfl, hR7.less (fun x hx => by simp [hx]) hbS, FX.out.then hF7 (fun x hx => .inr (by simp at hx; omega))⟩
set_option maxHeartbeats 8000000 in
set_option maxRecDepth 100000 in
theorem fields_none (S : List Nat) (b : Nat) (l : List UInt8) (k : Int) (n1 : k ≠ 1) (n2 : k ≠ 2) (n3 : k ≠ 3) (w : World) (h : Rdr w S b (l, 0)) : Calls Tryd.prog 38 #[.pointer (some ⟨b, 0, none⟩), .int .i64 k] w fun z w' => z = .returned (.tuple #[.agg #[.int .i64 k, .int .i64 0, .int .i64 0, .int .i64 0, .slice none 0 0], .int .i64 4]) ∧ Rdr w' S b (l, 0) ∧ Fr [b] w w' := by
  have x1 : (k == 1) = false := by simp [n1]
  have x2 : (k == 2) = false := by simp [n2]
  have x3 : (k == 3) = false := by simp [n3]
  clear n1 n2 n3
  have hR := hide h
  clear h
  go_enter Tryd.func38, Tryd.ntmps38
  go_wp2_with fail
  go_returns
  exact ⟨rfl, rdr_ext hR.out (((Ext.refl w).alloc _).alloc _), Fr.of_ext (((Ext.refl w).alloc _).alloc _)⟩
end Go.Proofs.YthidjngipkelcaaDoor
