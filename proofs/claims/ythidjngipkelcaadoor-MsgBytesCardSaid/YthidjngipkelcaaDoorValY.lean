/-
  A helper of ours: no claim of its own. Layer 5 (value): the document's next value.
-/
import Derived.Test.YthidjngipkelcaaDoorValR
import Derived.Test.YthidjngipkelcaaDoorBinR
import Derived.Test.YthidjngipkelcaaDoorReg2
import Derived.BigQuiet
set_option linter.unusedVariables false
set_option linter.unusedSimpArgs false
namespace Go.Proofs.YthidjngipkelcaaDoor
open Go.RowKit
attribute [local go_sem] GW.cell GW.frozen In.eq_true In.le_true In.ne In.ne' In.ne_add In.ne_add' In.lt_add Upto.le_true Upto.le_add Upto.lt_add
theorem Qdr.blt {w : World} {S : List Nat} {b : Nat} {st : List UInt8 × Int} (h : Qdr w S b st) : b < w.heap.size := by
  obtain ⟨_, _, v, hO, _⟩ := h
  exact hO.lt
theorem Qdr.more {w : World} {S S' : List Nat} {b : Nat} {st : List UInt8 × Int} (h : Qdr w S b st) (hs : ∀ x, x ∈ S' → x ∈ S ∨ w.heap.size ≤ x) (hb' : b ∈ S') : Qdr w S' b st := by
  obtain ⟨hb, hi, v, hO, hB⟩ := h
  exact ⟨hb', hi, v, hO, Sl.new hB hs⟩
theorem Qdr.err {w : World} {S : List Nat} {b : Nat} {st : List UInt8 × Int} (h : Qdr w S b st) : w.cell? ⟨b, 1, none⟩ = some (.int .i64 st.2) := by
  obtain ⟨_, _, v, hO, _⟩ := h
  exact hO.cell 1 rfl
theorem qdr_set3 {w : World} {S : List Nat} {b B : Nat} {st : List UInt8 × Int} (h : Qdr w S b st) (hB : B ∈ S) (hne : b ≠ B) (u0 u1 u2 : Value) : Qdr (((w.setCell ⟨B, 0, none⟩ u0).setCell ⟨B, 1, none⟩ u1).setCell ⟨B, 2, none⟩ u2) S b st :=
  h.fr (S' := [B]) (fr_set3 (Fr.refl _ _) (.inl (by simp)) u0 u1 u2) (by simp; exact hne) (by simp; exact hB)
theorem Qdr.less {w : World} {S S' : List Nat} {b : Nat} {st : List UInt8 × Int} (h : Qdr w S b st) (hs : ∀ x, x ∈ S' → x ∈ S) (hb : b ∈ S') : Qdr w S' b st := h.more (fun x hx => .inl (hs x hx)) hb
theorem Qdr.front {w : World} {S : List Nat} {b : Nat} {st : List UInt8 × Int} (h : Qdr w S b st) : Qdr (w.alloc (.cells #[.int .i64 0, .int .i64 0, .string ⟨#[]⟩] 58)) (w.heap.size :: S) b st :=
  qdr_ext (h.more (fun x hx => by rcases List.mem_cons.1 hx with rfl | hx; exact .inr (Nat.le_refl _); exact .inl hx) (by simp [h.1])) ((Ext.refl w).alloc _)
theorem Qdr.front' {w : World} {S : List Nat} {b : Nat} {st : List UInt8 × Int} (h : Qdr w S b st) (o : Obj) : Qdr (w.alloc o) (w.heap.size :: S) b st :=
  qdr_ext (h.more (fun x hx => by rcases List.mem_cons.1 hx with rfl | hx; exact .inr (Nat.le_refl _); exact .inl hx) (by simp [h.1])) ((Ext.refl w).alloc _)
theorem qread_end {w w1 : World} {S : List Nat} {b : Nat} {st : List UInt8 × Int} (hR : Qdr w1 (w.heap.size :: S) b st) (hbS : b ∈ S) (hF : Fr [b] w w1) (hne : b ≠ w.heap.size) (u0 u1 u2 : Value) :
    Qdr (((w1.setCell ⟨w.heap.size, 0, none⟩ u0).setCell ⟨w.heap.size, 1, none⟩ u1).setCell ⟨w.heap.size, 2, none⟩ u2) S b st ∧ Fr [b] w (((w1.setCell ⟨w.heap.size, 0, none⟩ u0).setCell ⟨w.heap.size, 1, none⟩ u1).setCell ⟨w.heap.size, 2, none⟩ u2) :=
  ⟨(qdr_set3 hR (by simp) hne u0 u1 u2).less (fun x hx => by simp [hx]) hbS, fr_set3 hF (.inr (Nat.le_refl _)) u0 u1 u2⟩
set_option maxHeartbeats 4000000 in
set_option maxRecDepth 100000 in
theorem qread_nil (S : List Nat) (b : Nat) (w : World) (h : Qdr w S b ([], 0)) : Calls Tryd.prog 66 #[.pointer (some ⟨b, 0, none⟩)] w fun z w' => z = .returned (.tuple #[val 0 0 ⟨#[]⟩, .int .i64 5]) ∧ Qdr w' S b ([], 5) ∧ Fr [b] w w' := by
  have hb := h.blt
  have hbS := h.1
  have hR0 := hide h.front
  have O0 := hide (ob_zero w)
  have hF0 := hide (Fr.of_ext (S := [b]) ((Ext.refl w).alloc (.cells #[.int .i64 0, .int .i64 0, .string ⟨#[]⟩] 58)))
  have hne : b ≠ w.heap.size := by omega
  have hne' : w.heap.size ≠ b := by omega
  clear h
  go_enter Tryd.func66, Tryd.ntmps66
  go_wp2_with (go_at_call 40; refine (qbyte_c _ b [] 0 _ hR0.out).mono ?_; rintro ee w1 ⟨rfl, hR1, hF1⟩; replace hR1 : Qdr w1 (w.heap.size :: S) b ([], 5) := hR1; replace hR1 : Qdr w1 (w.heap.size :: S) b ([], 5) := hR1; have q1 := hR1.err; have hblt1 := hR1.blt; haveI : In b w1 := ⟨hblt1⟩; replace hR1 := hide hR1; have O1 := O0.out.fr hF1 (by simp; omega); have k0 := O1.cell 0 rfl; have k1 := O1.cell 1 rfl; have k2 := O1.cell 2 rfl; have zk0 := O1.free 0; have zk1 := O1.free 1; have zk2 := O1.free 2; have hlt1 := O1.lt; haveI : In w.heap.size w1 := ⟨hlt1⟩; have hFa := hide (hF0.out.trans hF1))
  refine wp_region_objs (S := [w.heap.size]) [.is (val 0 0 ⟨#[]⟩), .is (.pointer (some ⟨b, 0, none⟩)), .is (.pointer (some ⟨b, 0, none⟩)), .is (.pointer (some ⟨b, 1, none⟩)), .is (.int .i64 (5)), .any, .is (.int .i64 (5))] (fun _ ww => Ob ww w.heap.size 58 zv ∧ Qdr ww (w.heap.size :: S) b ([], 5)) [] (by kernel_rfl) (by kernel_rfl) (by kernel_rfl) (fun _ x y h k => ⟨h.1.ext k, qdr_ext h.2 k⟩) (fun _ _ _ _ h => h) ⟨O1, hR1.out⟩ ?_ ?_
  · refine ⟨?_, ?_, ?_, ?_, ?_, ?_, ?_, trivial⟩
    · intro b' w' Lf h
      exact .inl ⟨by decide, good_run (wanted_none rfl) (v := val 0 0 ⟨#[]⟩) (by simp [execOp, go_sem, val]; try rfl) rfl⟩
    · intro b' w' Lf h
      have f0 : b'.tmps.getD 0 undef = (.pointer (some ⟨b, 0, none⟩)) := h.else_ 0 (of_decide_eq_true (by kernel_rfl))
      exact .inl ⟨by decide, good_move (wanted_none rfl) rfl f0⟩
    · intro b' w' Lf h
      have f : b'.tmps.getD 14 undef = (.pointer (some ⟨b, 0, none⟩)) := h.dep 1 _ 14 (by kernel_rfl) rfl rfl
      exact .inl ⟨by decide, good_nilCheck (wanted_none rfl) rfl f rfl⟩
    · intro b' w' Lf h
      have f : b'.tmps.getD 15 undef = (.pointer (some ⟨b, 0, none⟩)) := h.dep 2 _ 15 (by kernel_rfl) rfl rfl
      exact .inl ⟨by decide, good_field (wanted_none rfl) rfl f (by simp [go_sem]) rfl⟩
    · intro b' w' Lf h
      have f : b'.tmps.getD 16 undef = .pointer (some ⟨b, 1, none⟩) := h.dep 3 _ 16 (by kernel_rfl) rfl rfl
      have c1 := h.obj.2.err
      exact .inl ⟨by decide, good_load (wanted_none rfl) rfl f (v := .int .i64 (5)) (by simp [go_sem, c1]) rfl⟩
    · intro b' w' Lf h
      have f : b'.tmps.getD 13 undef = val 0 0 ⟨#[]⟩ := h.dep 0 _ 13 (by kernel_rfl) rfl rfl
      have f2 : b'.tmps.getD 2 undef = .pointer (some ⟨w.heap.size, 0, none⟩) := h.else_ 2 (of_decide_eq_true (by kernel_rfl))
      obtain ⟨hO', hR'⟩ := h.obj
      have n0 := hO'.cell 0 rfl; have n1 := hO'.cell 1 rfl; have n2 := hO'.cell 2 rfl; have z0 := hO'.free 0; have z1 := hO'.free 1; have z2 := hO'.free 2
      have hlt' := hO'.lt
      refine .inr (.inl ⟨wanted_none rfl, ?_⟩)
      unfold Oper.wp
      simp [execOp, Act.eval, f, f2, val, go_sem, n0, n1, n2, z0, z1, z2, hlt']
      exact ⟨⟨undef, trivial⟩, fr_set3 (Fr.refl _ _) (.inl (by simp)) _ _ _, (((hO'.set 0 _).set 1 _).set 2 _), qdr_set3 hR' (by simp) hne _ _ _⟩
    · intro b' w' Lf h
      have f : b'.tmps.getD 17 undef = .int .i64 (5) := h.dep 4 _ 17 (by kernel_rfl) rfl rfl
      exact .inl ⟨by decide, good_assign (wanted_none rfl) rfl f⟩
  intro b1 w7 hF7 hd7 hz7 he7 hf7 hJ7
  obtain ⟨hO7, hR7⟩ := hJ7 (fun j => decide (j < 7)) (by intro j hj; simpa using hj) (by intro j hj; simpa using hj)
  have f3 : b1.tmps.getD 3 undef = .int .i64 (5) := hf7 6 _ 3 rfl rfl
  have k0 := hO7.cell 0 rfl; have k1 := hO7.cell 1 rfl; have k2 := hO7.cell 2 rfl
  have e := frame_puts hd7 hz7 he7
  obtain ⟨x, hx⟩ : ∃ x : Nat → Value, ∀ d, b1.tmps.getD d undef = x d := ⟨_, fun _ => rfl⟩
  rw [show dstsOf _ = [13, 14, 15, 16, 17, 3] from rfl] at e
  simp only [List.foldl_cons, List.foldl_nil, hx, Act.put, List.setIfInBounds_toArray, List.set_cons_succ, List.set_cons_zero] at e f3
  rw [f3] at e
  clear hf7 hJ7 he7 hz7 hd7 hx
  subst e
  clear f3
  go_wp2_with fail
  refine bodyPost_ret (by simp [results, Tryd.results66, go_sem, k0, k1, k2]; try rfl) rfl ?_
  exact ⟨rfl, hR7.less (fun x hx => by simp [hx]) hbS, hFa.out.then hF7 (fun x hx => .inr (by simp at hx; omega))⟩
set_option maxHeartbeats 4000000 in
set_option maxRecDepth 100000 in
theorem qread_other (S : List Nat) (b : Nat) (c : UInt8) (r : List UInt8) (h1 : c.toNat ≠ 1) (h2 : c.toNat ≠ 2) (w : World) (h : Qdr w S b (c :: r, 0)) : Calls Tryd.prog 66 #[.pointer (some ⟨b, 0, none⟩)] w fun z w' => z = .returned (.tuple #[val 0 0 ⟨#[]⟩, .int .i64 4]) ∧ Qdr w' S b (r, 0) ∧ Fr [b] w w' := by
  have hb := h.blt
  have hbS := h.1
  have hR0 := hide h.front
  have O0 := hide (ob_zero w)
  have hF0 := hide (Fr.of_ext (S := [b]) ((Ext.refl w).alloc (.cells #[.int .i64 0, .int .i64 0, .string ⟨#[]⟩] 58)))
  have hne : b ≠ w.heap.size := by omega
  have hne' : w.heap.size ≠ b := by omega
  clear h
  have hbv : (byteVal (c :: r) 0).toNat = c.toNat := rfl
  have e1 : ((c.toNat : Int) == 1) = false := by simp; omega
  have e2 : ((c.toNat : Int) == 2) = false := by simp; omega
  have e3 : ((c.toNat : Int) != 1) = true := by simp; omega
  have e4 : ((c.toNat : Int) != 2) = true := by simp; omega
  go_enter Tryd.func66, Tryd.ntmps66
  go_wp2_with (go_at_call 40; refine (qbyte_c _ b (c :: r) 0 _ hR0.out).mono ?_; rintro ee w1 ⟨rfl, hR1, hF1⟩; replace hR1 : Qdr w1 (w.heap.size :: S) b (r, 0) := hR1; rw [hbv];  have q1 := hR1.err; have hblt1 := hR1.blt; haveI : In b w1 := ⟨hblt1⟩; replace hR1 := hide hR1; have O1 := O0.out.fr hF1 (by simp; omega); have k0 := O1.cell 0 rfl; have k1 := O1.cell 1 rfl; have k2 := O1.cell 2 rfl; have zk0 := O1.free 0; have zk1 := O1.free 1; have zk2 := O1.free 2; have hlt1 := O1.lt; haveI : In w.heap.size w1 := ⟨hlt1⟩; have hFa := hide (hF0.out.trans hF1))
  refine bodyPost_ret (by simp [results, Tryd.results66, go_sem, k0, k1, k2]; try rfl) rfl ?_
  exact ⟨rfl, qread_end hR1.out hbS hFa.out hne _ _ _⟩
set_option maxHeartbeats 4000000 in
set_option maxRecDepth 100000 in
theorem qread_num (S : List Nat) (b : Nat) (c : UInt8) (r : List UInt8) (h1 : c.toNat = 1) (q : List UInt8) (x : Int) (hst : numSt 10 r 0 = (q, x)) (hx : x = 0) (w : World) (h : Qdr w S b (c :: r, 0)) : Calls Tryd.prog 66 #[.pointer (some ⟨b, 0, none⟩)] w fun z w' => z = .returned (.tuple #[(val 1 (unz (numVal 10 r 0)) ⟨#[]⟩), .int .i64 0]) ∧ Qdr w' S b (q, x) ∧ Fr [b] w w' := by
  have hb := h.blt
  have hbS := h.1
  have hR0 := hide h.front
  have O0 := hide (ob_zero w)
  have hF0 := hide (Fr.of_ext (S := [b]) ((Ext.refl w).alloc (.cells #[.int .i64 0, .int .i64 0, .string ⟨#[]⟩] 58)))
  have hne : b ≠ w.heap.size := by omega
  have hne' : w.heap.size ≠ b := by omega
  clear h
  have hbv : (byteVal (c :: r) 0).toNat = c.toNat := rfl
  have e1 : (c.toNat : Int) = 1 := by omega
  have ex : (x != 0) = false := by simp [hx]
  replace hst := hide hst
  replace hx := hide hx
  go_enter Tryd.func66, Tryd.ntmps66
  go_wp2_with (first | (go_at_call 40; refine (qbyte_c _ b (c :: r) 0 _ hR0.out).mono ?_; rintro ee w1 ⟨rfl, hR1, hF1⟩; replace hR1 : Qdr w1 (w.heap.size :: S) b (r, 0) := hR1; rw [hbv, e1]; have hz1 := hF1.size; simp only [World.size_alloc] at hz1; have hne6 : b ≠ w1.heap.size := (by have := hR1.blt; omega); have hne6' : w1.heap.size ≠ b := (by omega); have hn26 : w.heap.size ≠ w1.heap.size := (by omega); have hn62 : w1.heap.size ≠ w.heap.size := (by omega); have hF6 : Fr [] w1 (w1.alloc (.cells #[.int .i64 1, .int .i64 0, .string ⟨#[]⟩] 58)) := Fr.of_ext ((Ext.refl w1).alloc _); have hR2 : Qdr (w1.alloc (.cells #[.int .i64 1, .int .i64 0, .string ⟨#[]⟩] 58)) (w1.heap.size :: w.heap.size :: S) b (r, 0) := hR1.front' _; replace hR2 := hide hR2; have O6 : Ob (w1.alloc (.cells #[.int .i64 1, .int .i64 0, .string ⟨#[]⟩] 58)) w1.heap.size 58 [.int .i64 1, .int .i64 0, .string ⟨#[]⟩] := Ob.new w1 _ _; replace O6 := hide O6; replace hF6 := hide hF6;  have q1 := hR1.err; have hblt1 := hR1.blt; haveI : In b w1 := ⟨hblt1⟩; replace hR1 := hide hR1; have O1 := O0.out.fr hF1 (by simp; omega); have k0 := O1.cell 0 rfl; have k1 := O1.cell 1 rfl; have k2 := O1.cell 2 rfl; have zk0 := O1.free 0; have zk1 := O1.free 1; have zk2 := O1.free 2; have hlt1 := O1.lt; haveI : In w.heap.size w1 := ⟨hlt1⟩; have hFa := hide (hF0.out.trans hF1)) | (go_at_call 80; refine (qint_c _ b r 0 _ hR2.out).mono ?_; rintro ee w3 ⟨rfl, hR3, hF3⟩; rw [hst.out] at hR3; have q3 : w3.cell? ⟨b, 1, none⟩ = some (.int .i64 x) := hR3.err; have hblt3 := hR3.blt; replace hR3 := hide hR3; have O3 := (O1.fr hF6.out (by simp)).fr hF3 (by simp; omega); have O7 := O6.out.fr hF3 (by simp; omega); have m0 := O3.cell 0 rfl; have m1 := O3.cell 1 rfl; have m2 := O3.cell 2 rfl; have zm0 := O3.free 0; have zm1 := O3.free 1; have zm2 := O3.free 2; have n0 := O7.cell 0 rfl; have n1 := O7.cell 1 rfl; have n2 := O7.cell 2 rfl; have zn0 := O7.free 0; have zn1 := O7.free 1; have zn2 := O7.free 2; have hlt3 := O3.lt; have hlt7 := O7.lt; haveI : In b w3 := ⟨hblt3⟩; haveI : In w.heap.size w3 := ⟨hlt3⟩; haveI : In w1.heap.size w3 := ⟨hlt7⟩; have hFb := hide ((hFa.out.then hF6.out (by simp)).trans hF3)))
  have hF5 : Fr [w1.heap.size] w3 (w3.setCell ⟨w1.heap.size, 1, none⟩ (.int .i64 (unz (numVal 10 r 0)))) := (Fr.refl _ _).setCell _ _ (.inl (by simp))
  have hR4 := (hR3.out.fr hF5 (by simp; exact hne6) (by simp)).less (S' := w.heap.size :: S) (by intro y hy; rcases List.mem_cons.1 hy with h | h; simp [h]; simp [h]) (by simp [hbS])
  have hF4 := hFb.out.then hF5 (fun y hy => .inr (by simp at hy; omega))
  refine bodyPost_ret (by simp [results, Tryd.results66, go_sem, m0, m1, m2, n0, n1, n2, hn26, hn62]; try rfl) rfl ?_
  exact ⟨rfl, qread_end hR4 hbS hF4 hne _ _ _⟩
set_option maxHeartbeats 4000000 in
set_option maxRecDepth 100000 in
theorem qread_numE (S : List Nat) (b : Nat) (c : UInt8) (r : List UInt8) (h1 : c.toNat = 1) (q : List UInt8) (x : Int) (hst : numSt 10 r 0 = (q, x)) (hx : x ≠ 0) (w : World) (h : Qdr w S b (c :: r, 0)) : Calls Tryd.prog 66 #[.pointer (some ⟨b, 0, none⟩)] w fun z w' => z = .returned (.tuple #[val 0 0 ⟨#[]⟩, .int .i64 x]) ∧ Qdr w' S b (q, x) ∧ Fr [b] w w' := by
  have hb := h.blt
  have hbS := h.1
  have hR0 := hide h.front
  have O0 := hide (ob_zero w)
  have hF0 := hide (Fr.of_ext (S := [b]) ((Ext.refl w).alloc (.cells #[.int .i64 0, .int .i64 0, .string ⟨#[]⟩] 58)))
  have hne : b ≠ w.heap.size := by omega
  have hne' : w.heap.size ≠ b := by omega
  clear h
  have hbv : (byteVal (c :: r) 0).toNat = c.toNat := rfl
  have e1 : (c.toNat : Int) = 1 := by omega
  have ex : (x != 0) = true := by simp [hx]
  replace hst := hide hst
  replace hx := hide hx
  go_enter Tryd.func66, Tryd.ntmps66
  go_wp2_with (first | (go_at_call 40; refine (qbyte_c _ b (c :: r) 0 _ hR0.out).mono ?_; rintro ee w1 ⟨rfl, hR1, hF1⟩; replace hR1 : Qdr w1 (w.heap.size :: S) b (r, 0) := hR1; rw [hbv, e1]; have hz1 := hF1.size; simp only [World.size_alloc] at hz1; have hne6 : b ≠ w1.heap.size := (by have := hR1.blt; omega); have hne6' : w1.heap.size ≠ b := (by omega); have hn26 : w.heap.size ≠ w1.heap.size := (by omega); have hn62 : w1.heap.size ≠ w.heap.size := (by omega); have hF6 : Fr [] w1 (w1.alloc (.cells #[.int .i64 1, .int .i64 0, .string ⟨#[]⟩] 58)) := Fr.of_ext ((Ext.refl w1).alloc _); have hR2 : Qdr (w1.alloc (.cells #[.int .i64 1, .int .i64 0, .string ⟨#[]⟩] 58)) (w1.heap.size :: w.heap.size :: S) b (r, 0) := hR1.front' _; replace hR2 := hide hR2; have O6 : Ob (w1.alloc (.cells #[.int .i64 1, .int .i64 0, .string ⟨#[]⟩] 58)) w1.heap.size 58 [.int .i64 1, .int .i64 0, .string ⟨#[]⟩] := Ob.new w1 _ _; replace O6 := hide O6; replace hF6 := hide hF6;  have q1 := hR1.err; have hblt1 := hR1.blt; haveI : In b w1 := ⟨hblt1⟩; replace hR1 := hide hR1; have O1 := O0.out.fr hF1 (by simp; omega); have k0 := O1.cell 0 rfl; have k1 := O1.cell 1 rfl; have k2 := O1.cell 2 rfl; have zk0 := O1.free 0; have zk1 := O1.free 1; have zk2 := O1.free 2; have hlt1 := O1.lt; haveI : In w.heap.size w1 := ⟨hlt1⟩; have hFa := hide (hF0.out.trans hF1)) | (go_at_call 80; refine (qint_c _ b r 0 _ hR2.out).mono ?_; rintro ee w3 ⟨rfl, hR3, hF3⟩; rw [hst.out] at hR3; have q3 : w3.cell? ⟨b, 1, none⟩ = some (.int .i64 x) := hR3.err; have hblt3 := hR3.blt; replace hR3 := hide hR3; have O3 := (O1.fr hF6.out (by simp)).fr hF3 (by simp; omega); have O7 := O6.out.fr hF3 (by simp; omega); have m0 := O3.cell 0 rfl; have m1 := O3.cell 1 rfl; have m2 := O3.cell 2 rfl; have zm0 := O3.free 0; have zm1 := O3.free 1; have zm2 := O3.free 2; have n0 := O7.cell 0 rfl; have n1 := O7.cell 1 rfl; have n2 := O7.cell 2 rfl; have zn0 := O7.free 0; have zn1 := O7.free 1; have zn2 := O7.free 2; have hlt3 := O3.lt; have hlt7 := O7.lt; haveI : In b w3 := ⟨hblt3⟩; haveI : In w.heap.size w3 := ⟨hlt3⟩; haveI : In w1.heap.size w3 := ⟨hlt7⟩; have hFb := hide ((hFa.out.then hF6.out (by simp)).trans hF3)))
  have hF5 : Fr [w1.heap.size] w3 (w3.setCell ⟨w1.heap.size, 1, none⟩ (.int .i64 (unz (numVal 10 r 0)))) := (Fr.refl _ _).setCell _ _ (.inl (by simp))
  have hR4 := (hR3.out.fr hF5 (by simp; exact hne6) (by simp)).less (S' := w.heap.size :: S) (by intro y hy; rcases List.mem_cons.1 hy with h | h; simp [h]; simp [h]) (by simp [hbS])
  have hF4 := hFb.out.then hF5 (fun y hy => .inr (by simp at hy; omega))
  have O4 := O3.fr hF5 (by simp; omega)
  refine wp_region_objs (S := [w.heap.size]) [.is (val 0 0 ⟨#[]⟩), .is (.pointer (some ⟨b, 0, none⟩)), .is (.pointer (some ⟨b, 0, none⟩)), .is (.pointer (some ⟨b, 1, none⟩)), .is (.int .i64 (x)), .any, .is (.int .i64 (x))] (fun _ ww => Ob ww w.heap.size 58 zv ∧ Qdr ww (w.heap.size :: S) b (q, x)) [] (by kernel_rfl) (by kernel_rfl) (by kernel_rfl) (fun _ x y h k => ⟨h.1.ext k, qdr_ext h.2 k⟩) (fun _ _ _ _ h => h) ⟨O4, hR4⟩ ?_ ?_
  · refine ⟨?_, ?_, ?_, ?_, ?_, ?_, ?_, trivial⟩
    · intro b' w' Lf h
      exact .inl ⟨by decide, good_run (wanted_none rfl) (v := val 0 0 ⟨#[]⟩) (by simp [execOp, go_sem, val]; try rfl) rfl⟩
    · intro b' w' Lf h
      have f0 : b'.tmps.getD 0 undef = (.pointer (some ⟨b, 0, none⟩)) := h.else_ 0 (of_decide_eq_true (by kernel_rfl))
      exact .inl ⟨by decide, good_move (wanted_none rfl) rfl f0⟩
    · intro b' w' Lf h
      have f : b'.tmps.getD 41 undef = (.pointer (some ⟨b, 0, none⟩)) := h.dep 1 _ 41 (by kernel_rfl) rfl rfl
      exact .inl ⟨by decide, good_nilCheck (wanted_none rfl) rfl f rfl⟩
    · intro b' w' Lf h
      have f : b'.tmps.getD 42 undef = (.pointer (some ⟨b, 0, none⟩)) := h.dep 2 _ 42 (by kernel_rfl) rfl rfl
      exact .inl ⟨by decide, good_field (wanted_none rfl) rfl f (by simp [go_sem]) rfl⟩
    · intro b' w' Lf h
      have f : b'.tmps.getD 43 undef = .pointer (some ⟨b, 1, none⟩) := h.dep 3 _ 43 (by kernel_rfl) rfl rfl
      have c1 := h.obj.2.err
      exact .inl ⟨by decide, good_load (wanted_none rfl) rfl f (v := .int .i64 (x)) (by simp [go_sem, c1]) rfl⟩
    · intro b' w' Lf h
      have f : b'.tmps.getD 40 undef = val 0 0 ⟨#[]⟩ := h.dep 0 _ 40 (by kernel_rfl) rfl rfl
      have f2 : b'.tmps.getD 2 undef = .pointer (some ⟨w.heap.size, 0, none⟩) := h.else_ 2 (of_decide_eq_true (by kernel_rfl))
      obtain ⟨hO', hR'⟩ := h.obj
      have n0 := hO'.cell 0 rfl; have n1 := hO'.cell 1 rfl; have n2 := hO'.cell 2 rfl; have z0 := hO'.free 0; have z1 := hO'.free 1; have z2 := hO'.free 2
      have hlt' := hO'.lt
      refine .inr (.inl ⟨wanted_none rfl, ?_⟩)
      unfold Oper.wp
      simp [execOp, Act.eval, f, f2, val, go_sem, n0, n1, n2, z0, z1, z2, hlt']
      exact ⟨⟨undef, trivial⟩, fr_set3 (Fr.refl _ _) (.inl (by simp)) _ _ _, (((hO'.set 0 _).set 1 _).set 2 _), qdr_set3 hR' (by simp) hne _ _ _⟩
    · intro b' w' Lf h
      have f : b'.tmps.getD 44 undef = .int .i64 (x) := h.dep 4 _ 44 (by kernel_rfl) rfl rfl
      exact .inl ⟨by decide, good_assign (wanted_none rfl) rfl f⟩
  intro b1 w7 hF7 hd7 hz7 he7 hf7 hJ7
  obtain ⟨hO7, hR7⟩ := hJ7 (fun j => decide (j < 7)) (by intro j hj; simpa using hj) (by intro j hj; simpa using hj)
  have f3 : b1.tmps.getD 3 undef = .int .i64 (x) := hf7 6 _ 3 rfl rfl
  have k0 := hO7.cell 0 rfl; have k1 := hO7.cell 1 rfl; have k2 := hO7.cell 2 rfl
  have e := frame_puts hd7 hz7 he7
  obtain ⟨x, hx⟩ : ∃ x : Nat → Value, ∀ d, b1.tmps.getD d undef = x d := ⟨_, fun _ => rfl⟩
  rw [show dstsOf _ = [40, 41, 42, 43, 44, 3] from rfl] at e
  simp only [List.foldl_cons, List.foldl_nil, hx, Act.put, List.setIfInBounds_toArray, List.set_cons_succ, List.set_cons_zero] at e f3
  rw [f3] at e
  clear hf7 hJ7 he7 hz7 hd7 hx
  subst e
  clear f3
  go_wp2_with fail
  refine bodyPost_ret (by simp [results, Tryd.results66, go_sem, k0, k1, k2]; try rfl) rfl ?_
  exact ⟨rfl, hR7.less (fun x hx => by simp [hx]) hbS, hF4.then hF7 (fun x hx => .inr (by simp at hx; omega))⟩
set_option maxHeartbeats 4000000 in
set_option maxRecDepth 100000 in
theorem qread_text (S : List Nat) (b : Nat) (c : UInt8) (r : List UInt8) (h1 : c.toNat = 2) (q : List UInt8) (x : Int) (hst : textSt 64 r 0 = (q, x)) (hx : x = 0) (w : World) (h : Qdr w S b (c :: r, 0)) : Calls Tryd.prog 66 #[.pointer (some ⟨b, 0, none⟩)] w fun z w' => z = .returned (.tuple #[(val 2 0 ⟨(textVal 64 r 0).toArray⟩), .int .i64 0]) ∧ Qdr w' S b (q, x) ∧ Fr [b] w w' := by
  have hb := h.blt
  have hbS := h.1
  have hR0 := hide h.front
  have O0 := hide (ob_zero w)
  have hF0 := hide (Fr.of_ext (S := [b]) ((Ext.refl w).alloc (.cells #[.int .i64 0, .int .i64 0, .string ⟨#[]⟩] 58)))
  have hne : b ≠ w.heap.size := by omega
  have hne' : w.heap.size ≠ b := by omega
  clear h
  have hbv : (byteVal (c :: r) 0).toNat = c.toNat := rfl
  have e1 : (c.toNat : Int) = 2 := by omega
  have ex : (x != 0) = false := by simp [hx]
  replace hst := hide hst
  replace hx := hide hx
  go_enter Tryd.func66, Tryd.ntmps66
  go_wp2_with (first | (go_at_call 40; refine (qbyte_c _ b (c :: r) 0 _ hR0.out).mono ?_; rintro ee w1 ⟨rfl, hR1, hF1⟩; replace hR1 : Qdr w1 (w.heap.size :: S) b (r, 0) := hR1; rw [hbv, e1]; have hz1 := hF1.size; simp only [World.size_alloc] at hz1; have hne6 : b ≠ w1.heap.size := (by have := hR1.blt; omega); have hne6' : w1.heap.size ≠ b := (by omega); have hn26 : w.heap.size ≠ w1.heap.size := (by omega); have hn62 : w1.heap.size ≠ w.heap.size := (by omega); have hF6 : Fr [] w1 (w1.alloc (.cells #[.int .i64 2, .int .i64 0, .string ⟨#[]⟩] 58)) := Fr.of_ext ((Ext.refl w1).alloc _); have hR2 : Qdr (w1.alloc (.cells #[.int .i64 2, .int .i64 0, .string ⟨#[]⟩] 58)) (w1.heap.size :: w.heap.size :: S) b (r, 0) := hR1.front' _; replace hR2 := hide hR2; have O6 : Ob (w1.alloc (.cells #[.int .i64 2, .int .i64 0, .string ⟨#[]⟩] 58)) w1.heap.size 58 [.int .i64 2, .int .i64 0, .string ⟨#[]⟩] := Ob.new w1 _ _; replace O6 := hide O6; replace hF6 := hide hF6;  have q1 := hR1.err; have hblt1 := hR1.blt; haveI : In b w1 := ⟨hblt1⟩; replace hR1 := hide hR1; have O1 := O0.out.fr hF1 (by simp; omega); have k0 := O1.cell 0 rfl; have k1 := O1.cell 1 rfl; have k2 := O1.cell 2 rfl; have zk0 := O1.free 0; have zk1 := O1.free 1; have zk2 := O1.free 2; have hlt1 := O1.lt; haveI : In w.heap.size w1 := ⟨hlt1⟩; have hFa := hide (hF0.out.trans hF1)) | (go_at_call 81; refine (qtext_c _ b r 0 64 _ hR2.out).mono ?_; rintro ee w3 ⟨rfl, hR3, hF3⟩; rw [hst.out] at hR3; have q3 : w3.cell? ⟨b, 1, none⟩ = some (.int .i64 x) := hR3.err; have hblt3 := hR3.blt; replace hR3 := hide hR3; have O3 := (O1.fr hF6.out (by simp)).fr hF3 (by simp; omega); have O7 := O6.out.fr hF3 (by simp; omega); have m0 := O3.cell 0 rfl; have m1 := O3.cell 1 rfl; have m2 := O3.cell 2 rfl; have zm0 := O3.free 0; have zm1 := O3.free 1; have zm2 := O3.free 2; have n0 := O7.cell 0 rfl; have n1 := O7.cell 1 rfl; have n2 := O7.cell 2 rfl; have zn0 := O7.free 0; have zn1 := O7.free 1; have zn2 := O7.free 2; have hlt3 := O3.lt; have hlt7 := O7.lt; haveI : In b w3 := ⟨hblt3⟩; haveI : In w.heap.size w3 := ⟨hlt3⟩; haveI : In w1.heap.size w3 := ⟨hlt7⟩; have hFb := hide ((hFa.out.then hF6.out (by simp)).trans hF3)))
  have hF5 : Fr [w1.heap.size] w3 (w3.setCell ⟨w1.heap.size, 2, none⟩ (.string ⟨(textVal 64 r 0).toArray⟩)) := (Fr.refl _ _).setCell _ _ (.inl (by simp))
  have hR4 := (hR3.out.fr hF5 (by simp; exact hne6) (by simp)).less (S' := w.heap.size :: S) (by intro y hy; rcases List.mem_cons.1 hy with h | h; simp [h]; simp [h]) (by simp [hbS])
  have hF4 := hFb.out.then hF5 (fun y hy => .inr (by simp at hy; omega))
  refine bodyPost_ret (by simp [results, Tryd.results66, go_sem, m0, m1, m2, n0, n1, n2, hn26, hn62]; try rfl) rfl ?_
  exact ⟨rfl, qread_end hR4 hbS hF4 hne _ _ _⟩
set_option maxHeartbeats 4000000 in
set_option maxRecDepth 100000 in
theorem qread_textE (S : List Nat) (b : Nat) (c : UInt8) (r : List UInt8) (h1 : c.toNat = 2) (q : List UInt8) (x : Int) (hst : textSt 64 r 0 = (q, x)) (hx : x ≠ 0) (w : World) (h : Qdr w S b (c :: r, 0)) : Calls Tryd.prog 66 #[.pointer (some ⟨b, 0, none⟩)] w fun z w' => z = .returned (.tuple #[val 0 0 ⟨#[]⟩, .int .i64 x]) ∧ Qdr w' S b (q, x) ∧ Fr [b] w w' := by
  have hb := h.blt
  have hbS := h.1
  have hR0 := hide h.front
  have O0 := hide (ob_zero w)
  have hF0 := hide (Fr.of_ext (S := [b]) ((Ext.refl w).alloc (.cells #[.int .i64 0, .int .i64 0, .string ⟨#[]⟩] 58)))
  have hne : b ≠ w.heap.size := by omega
  have hne' : w.heap.size ≠ b := by omega
  clear h
  have hbv : (byteVal (c :: r) 0).toNat = c.toNat := rfl
  have e1 : (c.toNat : Int) = 2 := by omega
  have ex : (x != 0) = true := by simp [hx]
  replace hst := hide hst
  replace hx := hide hx
  go_enter Tryd.func66, Tryd.ntmps66
  go_wp2_with (first | (go_at_call 40; refine (qbyte_c _ b (c :: r) 0 _ hR0.out).mono ?_; rintro ee w1 ⟨rfl, hR1, hF1⟩; replace hR1 : Qdr w1 (w.heap.size :: S) b (r, 0) := hR1; rw [hbv, e1]; have hz1 := hF1.size; simp only [World.size_alloc] at hz1; have hne6 : b ≠ w1.heap.size := (by have := hR1.blt; omega); have hne6' : w1.heap.size ≠ b := (by omega); have hn26 : w.heap.size ≠ w1.heap.size := (by omega); have hn62 : w1.heap.size ≠ w.heap.size := (by omega); have hF6 : Fr [] w1 (w1.alloc (.cells #[.int .i64 2, .int .i64 0, .string ⟨#[]⟩] 58)) := Fr.of_ext ((Ext.refl w1).alloc _); have hR2 : Qdr (w1.alloc (.cells #[.int .i64 2, .int .i64 0, .string ⟨#[]⟩] 58)) (w1.heap.size :: w.heap.size :: S) b (r, 0) := hR1.front' _; replace hR2 := hide hR2; have O6 : Ob (w1.alloc (.cells #[.int .i64 2, .int .i64 0, .string ⟨#[]⟩] 58)) w1.heap.size 58 [.int .i64 2, .int .i64 0, .string ⟨#[]⟩] := Ob.new w1 _ _; replace O6 := hide O6; replace hF6 := hide hF6;  have q1 := hR1.err; have hblt1 := hR1.blt; haveI : In b w1 := ⟨hblt1⟩; replace hR1 := hide hR1; have O1 := O0.out.fr hF1 (by simp; omega); have k0 := O1.cell 0 rfl; have k1 := O1.cell 1 rfl; have k2 := O1.cell 2 rfl; have zk0 := O1.free 0; have zk1 := O1.free 1; have zk2 := O1.free 2; have hlt1 := O1.lt; haveI : In w.heap.size w1 := ⟨hlt1⟩; have hFa := hide (hF0.out.trans hF1)) | (go_at_call 81; refine (qtext_c _ b r 0 64 _ hR2.out).mono ?_; rintro ee w3 ⟨rfl, hR3, hF3⟩; rw [hst.out] at hR3; have q3 : w3.cell? ⟨b, 1, none⟩ = some (.int .i64 x) := hR3.err; have hblt3 := hR3.blt; replace hR3 := hide hR3; have O3 := (O1.fr hF6.out (by simp)).fr hF3 (by simp; omega); have O7 := O6.out.fr hF3 (by simp; omega); have m0 := O3.cell 0 rfl; have m1 := O3.cell 1 rfl; have m2 := O3.cell 2 rfl; have zm0 := O3.free 0; have zm1 := O3.free 1; have zm2 := O3.free 2; have n0 := O7.cell 0 rfl; have n1 := O7.cell 1 rfl; have n2 := O7.cell 2 rfl; have zn0 := O7.free 0; have zn1 := O7.free 1; have zn2 := O7.free 2; have hlt3 := O3.lt; have hlt7 := O7.lt; haveI : In b w3 := ⟨hblt3⟩; haveI : In w.heap.size w3 := ⟨hlt3⟩; haveI : In w1.heap.size w3 := ⟨hlt7⟩; have hFb := hide ((hFa.out.then hF6.out (by simp)).trans hF3)))
  have hF5 : Fr [w1.heap.size] w3 (w3.setCell ⟨w1.heap.size, 2, none⟩ (.string ⟨(textVal 64 r 0).toArray⟩)) := (Fr.refl _ _).setCell _ _ (.inl (by simp))
  have hR4 := (hR3.out.fr hF5 (by simp; exact hne6) (by simp)).less (S' := w.heap.size :: S) (by intro y hy; rcases List.mem_cons.1 hy with h | h; simp [h]; simp [h]) (by simp [hbS])
  have hF4 := hFb.out.then hF5 (fun y hy => .inr (by simp at hy; omega))
  have O4 := O3.fr hF5 (by simp; omega)
  refine wp_region_objs (S := [w.heap.size]) [.is (val 0 0 ⟨#[]⟩), .is (.pointer (some ⟨b, 0, none⟩)), .is (.pointer (some ⟨b, 0, none⟩)), .is (.pointer (some ⟨b, 1, none⟩)), .is (.int .i64 (x)), .any, .is (.int .i64 (x))] (fun _ ww => Ob ww w.heap.size 58 zv ∧ Qdr ww (w.heap.size :: S) b (q, x)) [] (by kernel_rfl) (by kernel_rfl) (by kernel_rfl) (fun _ x y h k => ⟨h.1.ext k, qdr_ext h.2 k⟩) (fun _ _ _ _ h => h) ⟨O4, hR4⟩ ?_ ?_
  · refine ⟨?_, ?_, ?_, ?_, ?_, ?_, ?_, trivial⟩
    · intro b' w' Lf h
      exact .inl ⟨by decide, good_run (wanted_none rfl) (v := val 0 0 ⟨#[]⟩) (by simp [execOp, go_sem, val]; try rfl) rfl⟩
    · intro b' w' Lf h
      have f0 : b'.tmps.getD 0 undef = (.pointer (some ⟨b, 0, none⟩)) := h.else_ 0 (of_decide_eq_true (by kernel_rfl))
      exact .inl ⟨by decide, good_move (wanted_none rfl) rfl f0⟩
    · intro b' w' Lf h
      have f : b'.tmps.getD 41 undef = (.pointer (some ⟨b, 0, none⟩)) := h.dep 1 _ 41 (by kernel_rfl) rfl rfl
      exact .inl ⟨by decide, good_nilCheck (wanted_none rfl) rfl f rfl⟩
    · intro b' w' Lf h
      have f : b'.tmps.getD 42 undef = (.pointer (some ⟨b, 0, none⟩)) := h.dep 2 _ 42 (by kernel_rfl) rfl rfl
      exact .inl ⟨by decide, good_field (wanted_none rfl) rfl f (by simp [go_sem]) rfl⟩
    · intro b' w' Lf h
      have f : b'.tmps.getD 43 undef = .pointer (some ⟨b, 1, none⟩) := h.dep 3 _ 43 (by kernel_rfl) rfl rfl
      have c1 := h.obj.2.err
      exact .inl ⟨by decide, good_load (wanted_none rfl) rfl f (v := .int .i64 (x)) (by simp [go_sem, c1]) rfl⟩
    · intro b' w' Lf h
      have f : b'.tmps.getD 40 undef = val 0 0 ⟨#[]⟩ := h.dep 0 _ 40 (by kernel_rfl) rfl rfl
      have f2 : b'.tmps.getD 2 undef = .pointer (some ⟨w.heap.size, 0, none⟩) := h.else_ 2 (of_decide_eq_true (by kernel_rfl))
      obtain ⟨hO', hR'⟩ := h.obj
      have n0 := hO'.cell 0 rfl; have n1 := hO'.cell 1 rfl; have n2 := hO'.cell 2 rfl; have z0 := hO'.free 0; have z1 := hO'.free 1; have z2 := hO'.free 2
      have hlt' := hO'.lt
      refine .inr (.inl ⟨wanted_none rfl, ?_⟩)
      unfold Oper.wp
      simp [execOp, Act.eval, f, f2, val, go_sem, n0, n1, n2, z0, z1, z2, hlt']
      exact ⟨⟨undef, trivial⟩, fr_set3 (Fr.refl _ _) (.inl (by simp)) _ _ _, (((hO'.set 0 _).set 1 _).set 2 _), qdr_set3 hR' (by simp) hne _ _ _⟩
    · intro b' w' Lf h
      have f : b'.tmps.getD 44 undef = .int .i64 (x) := h.dep 4 _ 44 (by kernel_rfl) rfl rfl
      exact .inl ⟨by decide, good_assign (wanted_none rfl) rfl f⟩
  intro b1 w7 hF7 hd7 hz7 he7 hf7 hJ7
  obtain ⟨hO7, hR7⟩ := hJ7 (fun j => decide (j < 7)) (by intro j hj; simpa using hj) (by intro j hj; simpa using hj)
  have f3 : b1.tmps.getD 3 undef = .int .i64 (x) := hf7 6 _ 3 rfl rfl
  have k0 := hO7.cell 0 rfl; have k1 := hO7.cell 1 rfl; have k2 := hO7.cell 2 rfl
  have e := frame_puts hd7 hz7 he7
  obtain ⟨x, hx⟩ : ∃ x : Nat → Value, ∀ d, b1.tmps.getD d undef = x d := ⟨_, fun _ => rfl⟩
  rw [show dstsOf _ = [40, 41, 42, 43, 44, 3] from rfl] at e
  simp only [List.foldl_cons, List.foldl_nil, hx, Act.put, List.setIfInBounds_toArray, List.set_cons_succ, List.set_cons_zero] at e f3
  rw [f3] at e
  clear hf7 hJ7 he7 hz7 hd7 hx
  subst e
  clear f3
  go_wp2_with fail
  refine bodyPost_ret (by simp [results, Tryd.results66, go_sem, k0, k1, k2]; try rfl) rfl ?_
  exact ⟨rfl, hR7.less (fun x hx => by simp [hx]) hbS, hF4.then hF7 (fun x hx => .inr (by simp at hx; omega))⟩
theorem qread_c (S : List Nat) (b : Nat) (l : List UInt8) (w : World) (h : Qdr w S b (l, 0)) : Calls Tryd.prog 66 #[.pointer (some ⟨b, 0, none⟩)] w fun z w' => z = .returned (.tuple #[vl (rdV l), .int .i64 (rdE l)]) ∧ Qdr w' S b (rdS l) ∧ Fr [b] w w' := by
  rcases l with _ | ⟨c, r⟩
  · exact qread_nil S b w h
  · by_cases h1 : c.toNat = 1
    · have e : rdE (c :: r) = (numSt 10 r 0).2 := by simp [rdE, h1]
      have es : rdS (c :: r) = numSt 10 r 0 := by simp [rdS, h1]
      by_cases hx : (numSt 10 r 0).2 = 0
      · have ev : rdV (c :: r) = (1, unz (numVal 10 r 0), ⟨#[]⟩) := by unfold rdV; rw [e, if_pos hx]; simp [h1]
        rw [e, es, ev, hx]
        exact qread_num S b c r h1 _ _ rfl hx w h
      · have ev : rdV (c :: r) = (0, 0, ⟨#[]⟩) := by unfold rdV; rw [e, if_neg hx]
        rw [e, es, ev]
        exact qread_numE S b c r h1 _ _ rfl hx w h
    · by_cases h2 : c.toNat = 2
      · have e : rdE (c :: r) = (textSt 64 r 0).2 := by simp [rdE, h1, h2]
        have es : rdS (c :: r) = textSt 64 r 0 := by simp [rdS, h1, h2]
        by_cases hx : (textSt 64 r 0).2 = 0
        · have ev : rdV (c :: r) = (2, 0, ⟨(textVal 64 r 0).toArray⟩) := by unfold rdV; rw [e, if_pos hx]; simp [h1]
          rw [e, es, ev, hx]
          exact qread_text S b c r h2 _ _ rfl hx w h
        · have ev : rdV (c :: r) = (0, 0, ⟨#[]⟩) := by unfold rdV; rw [e, if_neg hx]
          rw [e, es, ev]
          exact qread_textE S b c r h2 _ _ rfl hx w h
      · have e : rdE (c :: r) = 4 := by simp [rdE, h1, h2]
        have es : rdS (c :: r) = (r, 0) := by simp [rdS, h1, h2]
        have ev : rdV (c :: r) = (0, 0, ⟨#[]⟩) := by unfold rdV; rw [e, if_neg (by decide)]
        rw [e, es, ev]
        exact qread_other S b c r h1 h2 w h
end Go.Proofs.YthidjngipkelcaaDoor
