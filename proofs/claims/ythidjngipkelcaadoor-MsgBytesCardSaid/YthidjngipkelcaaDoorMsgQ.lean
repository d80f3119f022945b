/-
  A helper of ours: no claim of its own. Layer 8 (msg): the next message, by the code.
-/
import Derived.Test.YthidjngipkelcaaDoorMsgR
set_option linter.unusedVariables false
set_option linter.unusedSimpArgs false
namespace Go.Proofs.YthidjngipkelcaaDoor
open Go.RowKit
attribute [local go_sem] GW.cell GW.frozen In.eq_true In.le_true In.ne In.ne' In.ne_add In.ne_add' In.lt_add Upto.le_true Upto.le_add Upto.lt_add
def st1 (l : List UInt8) : List UInt8 × Int := numSt 9 l 0
def st2 (l : List UInt8) : List UInt8 × Int := numSt 9 (st1 l).1 (st1 l).2
def st3 (l : List UInt8) : List UInt8 × Int := numSt 9 (st2 l).1 (st2 l).2
def va1 (l : List UInt8) : Nat := numVal 9 l 0
def va2 (l : List UInt8) : Nat := numVal 9 (st1 l).1 (st1 l).2
def va3 (l : List UInt8) : Nat := numVal 9 (st2 l).1 (st2 l).2
/-- What is wrong with the fields that are read: an insert's, a retract's, a promise's. -/
def insE (r : List UInt8) : Int := if (st3 r).2 = 0 then (if rwE (st3 r).1 = 0 then mchk 1 (va1 r) (va2 r) (va3 r) (rwV (st3 r).1) else rwE (st3 r).1) else (st3 r).2
def retE (r : List UInt8) : Int := if (st2 r).2 = 0 then mchk 2 (va1 r) 0 (va2 r) [] else (st2 r).2
def ctiE (r : List UInt8) : Int := if (st1 r).2 = 0 then mchk 3 0 (va1 r) 0 [] else (st1 r).2
def mrE : List UInt8 → Int
  | [] => 5
  | c :: r => if c.toNat = 1 then insE r else if c.toNat = 2 then retE r else if c.toNat = 3 then ctiE r else 4
/-- Kind, number, first tick, last tick. -/
def mrM : List UInt8 → (Int × Int × Int × Int)
  | [] => (0, 0, 0, 0)
  | c :: r => if mrE (c :: r) = 0 then (if c.toNat = 1 then (1, (va1 r : Int), (va2 r : Int), (va3 r : Int)) else if c.toNat = 2 then (2, (va1 r : Int), 0, (va2 r : Int)) else (3, 0, (va1 r : Int), 0)) else (0, 0, 0, 0)
def mrV : List UInt8 → List Vl
  | [] => []
  | c :: r => if mrE (c :: r) = 0 then (if c.toNat = 1 then rwV (st3 r).1 else []) else []
/-- What is left. -/
def mrS : List UInt8 → List UInt8
  | [] => []
  | c :: r => if c.toNat = 1 then (rwS (st3 r).1).1 else if c.toNat = 2 then (st2 r).1 else (st1 r).1
abbrev FieldsW (b : Nat) (r : List UInt8) (k K I F' T' : Int) (L : List Vl) (E : Int) (SS : List UInt8 × Int) : Prop := ∀ (S' : List Nat) (w' : World), Rdr w' S' b (r, 0) → Calls Tryd.prog 38 #[.pointer (some ⟨b, 0, none⟩), .int .i64 k] w' fun z w'' => ∃ v', z = .returned (.tuple #[mg K I F' T' v', .int .i64 E]) ∧ OwnR w'' w'.heap.size v' L ∧ Rdr w'' S' b SS ∧ Fr [b] w' w''
set_option maxHeartbeats 8000000 in
set_option maxRecDepth 100000 in
theorem mread_nil (S : List Nat) (b : Nat) (w : World) (h : Rdr w S b ([], 0)) : Calls Tryd.prog 12 #[.pointer (some ⟨b, 0, none⟩)] w fun z w' => z = .returned (.tuple #[mg 0 0 0 0 (.slice none 0 0), .int .i64 5]) ∧ Rdr w' S b ([], 5) ∧ Fr [b] w w' := by
  have hb := h.blt
  have hbS := h.1
  have hM' : b ≠ w.heap.size := by omega
  have E0 := hide ((Ext.refl w).alloc (mO 0 0 0 0 (.slice none 0 0)))
  have R0 := hide (rdr_ext (h.more (S' := w.heap.size :: S) (by intro x hx; rcases List.mem_cons.1 hx with rfl | hx; exact .inr (Nat.le_refl _); exact .inl hx) (by simp [hbS])) E0.out)
  have OR0 := hide (Ob.new w 26 [.int .i64 0, .int .i64 0, .int .i64 0, .int .i64 0, .slice none 0 0])
  have F0 := hide (Fr.of_ext (S := [b]) E0.out)
  clear h
  go_enter Tryd.func12, Tryd.ntmps12
  go_wp2_with (first | (go_at_call 36; refine (rbyte_c _ b [] 0 _ R0.out).mono ?_; rintro ee w1 ⟨rfl, R1, F1⟩; replace R1 : Rdr w1 (w.heap.size :: S) b ([], 5) := R1; have OR1 := OR0.out.fr F1 (by simp; omega); have k10 := OR1.cell 0 rfl; have k11 := OR1.cell 1 rfl; have k12 := OR1.cell 2 rfl; have k13 := OR1.cell 3 rfl; have k14 := OR1.cell 4 rfl; have y10 := OR1.free 0; have y11 := OR1.free 1; have y12 := OR1.free 2; have y13 := OR1.free 3; have y14 := OR1.free 4; have lr1 := OR1.lt; haveI : In w.heap.size w1 := ⟨lr1⟩; have F1' := hide (F0.out.trans F1); replace R1 := hide R1) | (go_at_call 37; refine (err_c _ b [] 5 _ R1.out).mono ?_; rintro ee w9 ⟨rfl, rfl⟩))
  have hF5 := ((((((Fr.refl [w.heap.size] w1).setCell ⟨w.heap.size, 0, none⟩ (.int .i64 0) (.inl (by simp))).setCell ⟨w.heap.size, 1, none⟩ (.int .i64 0) (.inl (by simp))).setCell ⟨w.heap.size, 2, none⟩ (.int .i64 0) (.inl (by simp))).setCell ⟨w.heap.size, 3, none⟩ (.int .i64 0) (.inl (by simp))).setCell ⟨w.heap.size, 4, none⟩ (.slice none 0 0) (.inl (by simp)))
  refine bodyPost_ret (by simp [results, Tryd.results12, go_sem, k10, k11, k12, k13, k14]; try rfl) rfl ?_
  exact ⟨rfl, (Rdr.fr R1.out hF5 (by simp; omega) (by intro x hx; simp at hx ⊢; exact .inl hx)).less (fun x hx => by simp [hx]) hbS, F1'.out.then hF5 (by intro x hx; simp at hx; exact .inr (by omega))⟩
set_option maxHeartbeats 8000000 in
set_option maxRecDepth 100000 in
theorem mread_err (S : List Nat) (b : Nat) (c : UInt8) (r : List UInt8) (K I F' T' : Int) (L : List Vl) (E : Int) (SS : List UInt8 × Int) (hf : Hid (FieldsW b r c.toNat K I F' T' L E SS)) (hE : E ≠ 0) (w : World) (h : Rdr w S b (c :: r, 0)) : Calls Tryd.prog 12 #[.pointer (some ⟨b, 0, none⟩)] w fun z w' => ∃ v', z = .returned (.tuple #[mg 0 0 0 0 v', .int .i64 E]) ∧ OwnR w' w.heap.size v' [] ∧ Rdr w' S b SS ∧ Fr [b] w w' := by
  have hb := h.blt
  have hbS := h.1
  have hM' : b ≠ w.heap.size := by omega
  have E0 := hide ((Ext.refl w).alloc (mO 0 0 0 0 (.slice none 0 0)))
  have R0 := hide (rdr_ext (h.more (S' := w.heap.size :: S) (by intro x hx; rcases List.mem_cons.1 hx with rfl | hx; exact .inr (Nat.le_refl _); exact .inl hx) (by simp [hbS])) E0.out)
  have OR0 := hide (Ob.new w 26 [.int .i64 0, .int .i64 0, .int .i64 0, .int .i64 0, .slice none 0 0])
  have F0 := hide (Fr.of_ext (S := [b]) E0.out)
  clear h
  have hbv : (byteVal (c :: r) 0).toNat = c.toNat := rfl
  obtain ⟨n, hn⟩ : ∃ n, n = c.toNat := ⟨_, rfl⟩
  have h255 : (n : Int) ≤ 255 := by have := c.toNat_lt; omega
  rw [← hn] at hbv hf
  replace hn := hide hn
  replace hbv := hide hbv
  unfold FieldsW at hf
  have e0 : (E == 0) = false := by simp [hE]
  have e1 : (E != 0) = true := by simp [hE]
  clear hE
  go_enter Tryd.func12, Tryd.ntmps12
  go_wp2_with (first | (go_at_call 36; refine (rbyte_c _ b (c :: r) 0 _ R0.out).mono ?_; rintro ee w1 ⟨rfl, R1, F1⟩; rw [hbv.out]; replace R1 : Rdr w1 (w.heap.size :: S) b (r, 0) := R1; have OR1 := OR0.out.fr F1 (by simp; omega); have k10 := OR1.cell 0 rfl; have k11 := OR1.cell 1 rfl; have k12 := OR1.cell 2 rfl; have k13 := OR1.cell 3 rfl; have k14 := OR1.cell 4 rfl; have y10 := OR1.free 0; have y11 := OR1.free 1; have y12 := OR1.free 2; have y13 := OR1.free 3; have y14 := OR1.free 4; have lr1 := OR1.lt; haveI : In w.heap.size w1 := ⟨lr1⟩; have F1' := hide (F0.out.trans F1); replace R1 := hide R1) | (go_at_call 37; refine (err_c _ b r 0 _ R1.out).mono ?_; rintro ee w9 ⟨rfl, rfl⟩) | (go_at_call 38; refine (hf.out _ _ R1.out).mono ?_; rintro ee w2 ⟨v2, rfl, ho2, R2, F2⟩; obtain ⟨A2, c2, rfl⟩ := own_form ho2; have OR2 := OR1.fr F2 (by simp; omega); have k20 := OR2.cell 0 rfl; have k21 := OR2.cell 1 rfl; have k22 := OR2.cell 2 rfl; have k23 := OR2.cell 3 rfl; have k24 := OR2.cell 4 rfl; have y20 := OR2.free 0; have y21 := OR2.free 1; have y22 := OR2.free 2; have y23 := OR2.free 3; have y24 := OR2.free 4; have lr2 := OR2.lt; haveI : In w.heap.size w2 := ⟨lr2⟩; have hz1 := F1'.out.size; have hz2 := F2.size; have F2' := hide (F1'.out.trans F2); replace R2 := hide R2; have hrw := hide (own_rw (S := []) ho2 (by simp))) | (go_at_call 9; (with_reducible refine seq_gw (check_c K I F' T' L _ _ (Sl.ext hrw.out ((Ext.refl w2).alloc _))) ?_); intro g))
  have hF5 := ((((((Fr.refl [w.heap.size] w2).setCell ⟨w.heap.size, 0, none⟩ (.int .i64 0) (.inl (by simp))).setCell ⟨w.heap.size, 1, none⟩ (.int .i64 0) (.inl (by simp))).setCell ⟨w.heap.size, 2, none⟩ (.int .i64 0) (.inl (by simp))).setCell ⟨w.heap.size, 3, none⟩ (.int .i64 0) (.inl (by simp))).setCell ⟨w.heap.size, 4, none⟩ (.slice none 0 0) (.inl (by simp)))
  replace hF5 := hF5.alloc (mO K I F' T' (.slice A2 L.length c2))
  refine bodyPost_ret (by simp [results, Tryd.results12, go_sem, k20, k21, k22, k23, k24]; try rfl) rfl ?_
  have hFe := Fr.then (S := [b]) F2'.out (S' := []) (Fr.of_ext (Ext.refl w2)) (by simp)
  exact ⟨_, rfl, World.ownsRow_nil _ _ _ _, (Rdr.fr (rdr_ext R2.out (Ext.refl w2)) hF5 (by simp; omega) (by intro x hx; simp at hx ⊢; exact .inl hx)).less (fun x hx => by simp [hx]) hbS, hFe.then hF5 (by intro x hx; simp at hx; exact .inr (by omega))⟩
set_option maxHeartbeats 8000000 in
set_option maxRecDepth 100000 in
theorem mread_chk (S : List Nat) (b : Nat) (c : UInt8) (r : List UInt8) (K I F' T' : Int) (L : List Vl) (E : Int) (SS : List UInt8 × Int) (hf : Hid (FieldsW b r c.toNat K I F' T' L E SS)) (X : Int) (hX : Hid (mchk K I F' T' L = X)) (hE : X ≠ 0) (hE0 : E = 0) (w : World) (h : Rdr w S b (c :: r, 0)) : Calls Tryd.prog 12 #[.pointer (some ⟨b, 0, none⟩)] w fun z w' => ∃ v', z = .returned (.tuple #[mg 0 0 0 0 v', .int .i64 X]) ∧ OwnR w' w.heap.size v' [] ∧ Rdr w' S b SS ∧ Fr [b] w w' := by
  have hb := h.blt
  have hbS := h.1
  have hM' : b ≠ w.heap.size := by omega
  have E0 := hide ((Ext.refl w).alloc (mO 0 0 0 0 (.slice none 0 0)))
  have R0 := hide (rdr_ext (h.more (S' := w.heap.size :: S) (by intro x hx; rcases List.mem_cons.1 hx with rfl | hx; exact .inr (Nat.le_refl _); exact .inl hx) (by simp [hbS])) E0.out)
  have OR0 := hide (Ob.new w 26 [.int .i64 0, .int .i64 0, .int .i64 0, .int .i64 0, .slice none 0 0])
  have F0 := hide (Fr.of_ext (S := [b]) E0.out)
  clear h
  have hbv : (byteVal (c :: r) 0).toNat = c.toNat := rfl
  obtain ⟨n, hn⟩ : ∃ n, n = c.toNat := ⟨_, rfl⟩
  have h255 : (n : Int) ≤ 255 := by have := c.toNat_lt; omega
  rw [← hn] at hbv hf
  replace hn := hide hn
  replace hbv := hide hbv
  unfold FieldsW at hf
  have e1 : (X != 0) = true := by simp [hE]
  clear hE
  subst hE0
  go_enter Tryd.func12, Tryd.ntmps12
  go_wp2_with (first | (go_at_call 36; refine (rbyte_c _ b (c :: r) 0 _ R0.out).mono ?_; rintro ee w1 ⟨rfl, R1, F1⟩; rw [hbv.out]; replace R1 : Rdr w1 (w.heap.size :: S) b (r, 0) := R1; have OR1 := OR0.out.fr F1 (by simp; omega); have k10 := OR1.cell 0 rfl; have k11 := OR1.cell 1 rfl; have k12 := OR1.cell 2 rfl; have k13 := OR1.cell 3 rfl; have k14 := OR1.cell 4 rfl; have y10 := OR1.free 0; have y11 := OR1.free 1; have y12 := OR1.free 2; have y13 := OR1.free 3; have y14 := OR1.free 4; have lr1 := OR1.lt; haveI : In w.heap.size w1 := ⟨lr1⟩; have F1' := hide (F0.out.trans F1); replace R1 := hide R1) | (go_at_call 37; refine (err_c _ b r 0 _ R1.out).mono ?_; rintro ee w9 ⟨rfl, rfl⟩) | (go_at_call 38; refine (hf.out _ _ R1.out).mono ?_; rintro ee w2 ⟨v2, rfl, ho2, R2, F2⟩; obtain ⟨A2, c2, rfl⟩ := own_form ho2; have OR2 := OR1.fr F2 (by simp; omega); have k20 := OR2.cell 0 rfl; have k21 := OR2.cell 1 rfl; have k22 := OR2.cell 2 rfl; have k23 := OR2.cell 3 rfl; have k24 := OR2.cell 4 rfl; have y20 := OR2.free 0; have y21 := OR2.free 1; have y22 := OR2.free 2; have y23 := OR2.free 3; have y24 := OR2.free 4; have lr2 := OR2.lt; haveI : In w.heap.size w2 := ⟨lr2⟩; have hz1 := F1'.out.size; have hz2 := F2.size; have F2' := hide (F1'.out.trans F2); replace R2 := hide R2; have hrw := hide (own_rw (S := []) ho2 (by simp))) | (go_at_call 9; (with_reducible refine seq_gw (check_c K I F' T' L _ _ (Sl.ext hrw.out ((Ext.refl w2).alloc _))) ?_); rw [hX.out]; intro g))
  have hF5 := ((((((Fr.refl [w.heap.size] g.val).setCell ⟨w.heap.size, 0, none⟩ (.int .i64 0) (.inl (by simp))).setCell ⟨w.heap.size, 1, none⟩ (.int .i64 0) (.inl (by simp))).setCell ⟨w.heap.size, 2, none⟩ (.int .i64 0) (.inl (by simp))).setCell ⟨w.heap.size, 3, none⟩ (.int .i64 0) (.inl (by simp))).setCell ⟨w.heap.size, 4, none⟩ (.slice none 0 0) (.inl (by simp)))
  refine bodyPost_ret (by simp [results, Tryd.results12, go_sem, k20, k21, k22, k23, k24]; try rfl) rfl ?_
  have hFe := Fr.then (S := [b]) F2'.out (S' := []) (Fr.of_ext (((Ext.refl w2).alloc (mO K I F' T' (.slice A2 L.length c2))).trans g.grown)) (by simp)
  exact ⟨_, rfl, World.ownsRow_nil _ _ _ _, (Rdr.fr (rdr_ext R2.out (((Ext.refl w2).alloc (mO K I F' T' (.slice A2 L.length c2))).trans g.grown)) hF5 (by simp; omega) (by intro x hx; simp at hx ⊢; exact .inl hx)).less (fun x hx => by simp [hx]) hbS, hFe.then hF5 (by intro x hx; simp at hx; exact .inr (by omega))⟩
set_option maxHeartbeats 8000000 in
set_option maxRecDepth 100000 in
theorem mread_ok (S : List Nat) (b : Nat) (c : UInt8) (r : List UInt8) (K I F' T' : Int) (L : List Vl) (E : Int) (SS : List UInt8 × Int) (hf : Hid (FieldsW b r c.toNat K I F' T' L E SS)) (hX : Hid (mchk K I F' T' L = 0)) (hE0 : E = 0) (w : World) (h : Rdr w S b (c :: r, 0)) : Calls Tryd.prog 12 #[.pointer (some ⟨b, 0, none⟩)] w fun z w' => ∃ v', z = .returned (.tuple #[mg K I F' T' v', .int .i64 0]) ∧ OwnR w' w.heap.size v' L ∧ Rdr w' S b SS ∧ Fr [b] w w' := by
  have hb := h.blt
  have hbS := h.1
  have hM' : b ≠ w.heap.size := by omega
  have E0 := hide ((Ext.refl w).alloc (mO 0 0 0 0 (.slice none 0 0)))
  have R0 := hide (rdr_ext (h.more (S' := w.heap.size :: S) (by intro x hx; rcases List.mem_cons.1 hx with rfl | hx; exact .inr (Nat.le_refl _); exact .inl hx) (by simp [hbS])) E0.out)
  have OR0 := hide (Ob.new w 26 [.int .i64 0, .int .i64 0, .int .i64 0, .int .i64 0, .slice none 0 0])
  have F0 := hide (Fr.of_ext (S := [b]) E0.out)
  clear h
  have hbv : (byteVal (c :: r) 0).toNat = c.toNat := rfl
  obtain ⟨n, hn⟩ : ∃ n, n = c.toNat := ⟨_, rfl⟩
  have h255 : (n : Int) ≤ 255 := by have := c.toNat_lt; omega
  rw [← hn] at hbv hf
  replace hn := hide hn
  replace hbv := hide hbv
  unfold FieldsW at hf
  subst hE0
  go_enter Tryd.func12, Tryd.ntmps12
  go_wp2_with (first | (go_at_call 36; refine (rbyte_c _ b (c :: r) 0 _ R0.out).mono ?_; rintro ee w1 ⟨rfl, R1, F1⟩; rw [hbv.out]; replace R1 : Rdr w1 (w.heap.size :: S) b (r, 0) := R1; have OR1 := OR0.out.fr F1 (by simp; omega); have k10 := OR1.cell 0 rfl; have k11 := OR1.cell 1 rfl; have k12 := OR1.cell 2 rfl; have k13 := OR1.cell 3 rfl; have k14 := OR1.cell 4 rfl; have y10 := OR1.free 0; have y11 := OR1.free 1; have y12 := OR1.free 2; have y13 := OR1.free 3; have y14 := OR1.free 4; have lr1 := OR1.lt; haveI : In w.heap.size w1 := ⟨lr1⟩; have F1' := hide (F0.out.trans F1); replace R1 := hide R1) | (go_at_call 37; refine (err_c _ b r 0 _ R1.out).mono ?_; rintro ee w9 ⟨rfl, rfl⟩) | (go_at_call 38; refine (hf.out _ _ R1.out).mono ?_; rintro ee w2 ⟨v2, rfl, ho2, R2, F2⟩; obtain ⟨A2, c2, rfl⟩ := own_form ho2; have OR2 := OR1.fr F2 (by simp; omega); have k20 := OR2.cell 0 rfl; have k21 := OR2.cell 1 rfl; have k22 := OR2.cell 2 rfl; have k23 := OR2.cell 3 rfl; have k24 := OR2.cell 4 rfl; have y20 := OR2.free 0; have y21 := OR2.free 1; have y22 := OR2.free 2; have y23 := OR2.free 3; have y24 := OR2.free 4; have lr2 := OR2.lt; haveI : In w.heap.size w2 := ⟨lr2⟩; have hz1 := F1'.out.size; have hz2 := F2.size; have F2' := hide (F1'.out.trans F2); replace R2 := hide R2; have hrw := hide (own_rw (S := []) ho2 (by simp))) | (go_at_call 9; (with_reducible refine seq_gw (check_c K I F' T' L _ _ (Sl.ext hrw.out ((Ext.refl w2).alloc _))) ?_); rw [hX.out]; intro g))
  have hF5 := ((((((Fr.refl [w.heap.size] g.val).setCell ⟨w.heap.size, 0, none⟩ (.int .i64 K) (.inl (by simp))).setCell ⟨w.heap.size, 1, none⟩ (.int .i64 I) (.inl (by simp))).setCell ⟨w.heap.size, 2, none⟩ (.int .i64 F') (.inl (by simp))).setCell ⟨w.heap.size, 3, none⟩ (.int .i64 T') (.inl (by simp))).setCell ⟨w.heap.size, 4, none⟩ (.slice A2 L.length c2) (.inl (by simp)))
  refine bodyPost_ret (by simp [results, Tryd.results12, go_sem, k20, k21, k22, k23, k24]; try rfl) rfl ?_
  have hFe := Fr.then (S := [b]) F2'.out (S' := []) (Fr.of_ext (((Ext.refl w2).alloc (mO K I F' T' (.slice A2 L.length c2))).trans g.grown)) (by simp)
  exact ⟨_, rfl, own_base (own_fr (own_ext ho2 (((Ext.refl w2).alloc (mO K I F' T' (.slice A2 L.length c2))).trans g.grown)) hF5 (by intro x hx; simp at hx; subst hx; exact lr1)) (by omega), (Rdr.fr (rdr_ext R2.out (((Ext.refl w2).alloc (mO K I F' T' (.slice A2 L.length c2))).trans g.grown)) hF5 (by simp; omega) (by intro x hx; simp at hx ⊢; exact .inl hx)).less (fun x hx => by simp [hx]) hbS, hFe.then hF5 (by intro x hx; simp at hx; exact .inr (by omega))⟩
end Go.Proofs.YthidjngipkelcaaDoor
