/-
  A helper of ours: no claim of its own. Layer 5 (value): the next value that a reader has.
-/
import Derived.Test.YthidjngipkelcaaDoorValA
import Derived.Test.YthidjngipkelcaaDoorBinC
import Derived.Test.YthidjngipkelcaaDoorBinM
set_option linter.unusedVariables false
set_option linter.unusedSimpArgs false
namespace Go.Proofs.YthidjngipkelcaaDoor
open Go.RowKit
attribute [local go_sem] GW.cell GW.frozen In.eq_true In.le_true In.ne In.ne' In.ne_add In.ne_add' In.lt_add Upto.le_true Upto.le_add Upto.lt_add
/-- What is wrong with the bytes of a value; what is left behind; what the value is. -/
def rdE : List UInt8 → Int
  | [] => 5
  | c :: r => if c.toNat = 1 then (numSt 10 r 0).2 else if c.toNat = 2 then (textSt 64 r 0).2 else 4
def rdS : List UInt8 → List UInt8 × Int
  | [] => ([], 5)
  | c :: r => if c.toNat = 1 then numSt 10 r 0 else if c.toNat = 2 then textSt 64 r 0 else (r, 0)
def rdV (l : List UInt8) : Vl :=
  if rdE l = 0 then (match l with
    | [] => (0, 0, ⟨#[]⟩)
    | c :: r => if c.toNat = 1 then (1, unz (numVal 10 r 0), ⟨#[]⟩) else (2, 0, ⟨(textVal 64 r 0).toArray⟩))
  else (0, 0, ⟨#[]⟩)
theorem textVal_le (r : List UInt8) : (textVal 64 r 0).length ≤ 64 := by
  unfold textVal
  split
  · rename_i h
    unfold textE at h
    rw [List.length_take]
    split at h
    · rename_i h1; exact absurd h h1
    · split at h
      · cases h
      · omega
  · simp
theorem textSt_err (r : List UInt8) : (textSt 64 r 0).2 = textE 64 r 0 := by
  unfold textSt
  split
  · rename_i h; exact h.symm
  · rw [if_pos rfl]
theorem Rdr.blt {w : World} {S : List Nat} {b : Nat} {st : List UInt8 × Int} (h : Rdr w S b st) : b < w.heap.size := by
  obtain ⟨_, _, v, hO, _⟩ := h
  exact hO.lt
abbrev zv : List Value := [.int .i64 0, .int .i64 0, .string ⟨#[]⟩]
theorem ob_zero (w : World) : Ob (w.alloc (.cells #[.int .i64 0, .int .i64 0, .string ⟨#[]⟩] 58)) w.heap.size 58 zv := Ob.new w _ zv
theorem fr_set3 {W w : World} {X : List Nat} {B : Nat} (h : Fr X W w) (hB : B ∈ X ∨ W.heap.size ≤ B) (u0 u1 u2 : Value) : Fr X W (((w.setCell ⟨B, 0, none⟩ u0).setCell ⟨B, 1, none⟩ u1).setCell ⟨B, 2, none⟩ u2) :=
  ((h.setCell _ _ hB).setCell _ _ hB).setCell _ _ hB
theorem rdr_set3 {w : World} {S : List Nat} {b B : Nat} {st : List UInt8 × Int} (h : Rdr w S b st) (hB : B ∈ S) (hne : b ≠ B) (u0 u1 u2 : Value) : Rdr (((w.setCell ⟨B, 0, none⟩ u0).setCell ⟨B, 1, none⟩ u1).setCell ⟨B, 2, none⟩ u2) S b st :=
  h.fr (S' := [B]) (fr_set3 (Fr.refl _ _) (.inl (by simp)) u0 u1 u2) (by simp; exact hne) (by simp; exact hB)
theorem Rdr.less {w : World} {S S' : List Nat} {b : Nat} {st : List UInt8 × Int} (h : Rdr w S b st) (hs : ∀ x, x ∈ S' → x ∈ S) (hb : b ∈ S') : Rdr w S' b st := h.more (fun x hx => .inl (hs x hx)) hb
theorem Rdr.front {w : World} {S : List Nat} {b : Nat} {st : List UInt8 × Int} (h : Rdr w S b st) : Rdr (w.alloc (.cells #[.int .i64 0, .int .i64 0, .string ⟨#[]⟩] 58)) (w.heap.size :: S) b st :=
  rdr_ext (h.more (fun x hx => by rcases List.mem_cons.1 hx with rfl | hx; exact .inr (Nat.le_refl _); exact .inl hx) (by simp [h.1])) ((Ext.refl w).alloc _)
theorem read_end {w w1 : World} {S : List Nat} {b : Nat} {st : List UInt8 × Int} (hR : Rdr w1 (w.heap.size :: S) b st) (hbS : b ∈ S) (hF : Fr [b] w w1) (hne : b ≠ w.heap.size) (u0 u1 u2 : Value) :
    Rdr (((w1.setCell ⟨w.heap.size, 0, none⟩ u0).setCell ⟨w.heap.size, 1, none⟩ u1).setCell ⟨w.heap.size, 2, none⟩ u2) S b st ∧ Fr [b] w (((w1.setCell ⟨w.heap.size, 0, none⟩ u0).setCell ⟨w.heap.size, 1, none⟩ u1).setCell ⟨w.heap.size, 2, none⟩ u2) :=
  ⟨(rdr_set3 hR (by simp) hne u0 u1 u2).less (fun x hx => by simp [hx]) hbS, fr_set3 hF (.inr (Nat.le_refl _)) u0 u1 u2⟩
set_option maxHeartbeats 4000000 in
set_option maxRecDepth 100000 in
theorem read_nil (S : List Nat) (b : Nat) (w : World) (h : Rdr w S b ([], 0)) : Calls Tryd.prog 78 #[.pointer (some ⟨b, 0, none⟩)] w fun z w' => z = .returned (.tuple #[val 0 0 ⟨#[]⟩, .int .i64 5]) ∧ Rdr w' S b ([], 5) ∧ Fr [b] w w' := by
  have hb := h.blt
  have hbS := h.1
  have hR0 := hide h.front
  have O0 := hide (ob_zero w)
  have hF0 := hide (Fr.of_ext (S := [b]) ((Ext.refl w).alloc (.cells #[.int .i64 0, .int .i64 0, .string ⟨#[]⟩] 58)))
  have hne : b ≠ w.heap.size := by omega
  clear h
  go_enter Tryd.func78, Tryd.ntmps78
  go_wp2_with (first | (go_at_call 36; (refine (rbyte_c _ b [] 0 _ hR0.out).mono ?_; rintro ee w1 ⟨rfl, hR1, hF1⟩; replace hR1 : Rdr w1 (w.heap.size :: S) b ([], 5) := hR1;  replace hR1 := hide hR1; have O1 := O0.out.fr hF1 (by simp; omega); have k0 := O1.cell 0 rfl; have k1 := O1.cell 1 rfl; have k2 := O1.cell 2 rfl; have zk0 := O1.free 0; have zk1 := O1.free 1; have zk2 := O1.free 2; have hlt1 := O1.lt; haveI : In w.heap.size w1 := ⟨hlt1⟩; have hFa := hide (hF0.out.trans hF1); )) | (go_at_call 37; refine (err_c _ b [] 5 _ hR1.out).mono ?_; rintro ee w2 ⟨rfl, rfl⟩))
  refine bodyPost_ret (by simp [results, Tryd.results78, go_sem, k0, k1, k2]; try rfl) rfl ?_
  exact ⟨rfl, read_end hR1.out hbS hFa.out hne _ _ _⟩
set_option maxHeartbeats 4000000 in
set_option maxRecDepth 100000 in
theorem read_other (S : List Nat) (b : Nat) (c : UInt8) (r : List UInt8) (h1 : c.toNat ≠ 1) (h2 : c.toNat ≠ 2) (w : World) (h : Rdr w S b (c :: r, 0)) : Calls Tryd.prog 78 #[.pointer (some ⟨b, 0, none⟩)] w fun z w' => z = .returned (.tuple #[val 0 0 ⟨#[]⟩, .int .i64 4]) ∧ Rdr w' S b (r, 0) ∧ Fr [b] w w' := by
  have hb := h.blt
  have hbS := h.1
  have hR0 := hide h.front
  have O0 := hide (ob_zero w)
  have hF0 := hide (Fr.of_ext (S := [b]) ((Ext.refl w).alloc (.cells #[.int .i64 0, .int .i64 0, .string ⟨#[]⟩] 58)))
  have hne : b ≠ w.heap.size := by omega
  clear h
  have hbv : (byteVal (c :: r) 0).toNat = c.toNat := rfl
  have e1 : ((c.toNat : Int) == 1) = false := by simp; omega
  have e2 : ((c.toNat : Int) == 2) = false := by simp; omega
  go_enter Tryd.func78, Tryd.ntmps78
  go_wp2_with (first | (go_at_call 36; (refine (rbyte_c _ b (c :: r) 0 _ hR0.out).mono ?_; rintro ee w1 ⟨rfl, hR1, hF1⟩; replace hR1 : Rdr w1 (w.heap.size :: S) b (r, 0) := hR1; rw [hbv]; replace hR1 := hide hR1; have O1 := O0.out.fr hF1 (by simp; omega); have k0 := O1.cell 0 rfl; have k1 := O1.cell 1 rfl; have k2 := O1.cell 2 rfl; have zk0 := O1.free 0; have zk1 := O1.free 1; have zk2 := O1.free 2; have hlt1 := O1.lt; haveI : In w.heap.size w1 := ⟨hlt1⟩; have hFa := hide (hF0.out.trans hF1); )) | (go_at_call 37; refine (err_c _ b r 0 _ hR1.out).mono ?_; rintro ee w2 ⟨rfl, rfl⟩))
  refine bodyPost_ret (by simp [results, Tryd.results78, go_sem, k0, k1, k2, In.eq_true]; try rfl) rfl ?_
  have h := read_end hR1.out hbS hFa.out hne (.int .i64 0) (.int .i64 0) (.string ⟨#[]⟩)
  exact ⟨rfl, rdr_ext h.1 ((Ext.refl _).alloc _), h.2.alloc _⟩
set_option maxHeartbeats 4000000 in
set_option maxRecDepth 100000 in
theorem read_num (S : List Nat) (b : Nat) (c : UInt8) (r : List UInt8) (h1 : c.toNat = 1) (q : List UInt8) (x : Int) (hst : numSt 10 r 0 = (q, x)) (hx : x = 0) (w : World) (h : Rdr w S b (c :: r, 0)) : Calls Tryd.prog 78 #[.pointer (some ⟨b, 0, none⟩)] w fun z w' => z = .returned (.tuple #[(val 1 (unz (numVal 10 r 0)) ⟨#[]⟩), .int .i64 0]) ∧ Rdr w' S b (q, x) ∧ Fr [b] w w' := by
  have hb := h.blt
  have hbS := h.1
  have hR0 := hide h.front
  have O0 := hide (ob_zero w)
  have hF0 := hide (Fr.of_ext (S := [b]) ((Ext.refl w).alloc (.cells #[.int .i64 0, .int .i64 0, .string ⟨#[]⟩] 58)))
  have hne : b ≠ w.heap.size := by omega
  clear h
  have hbv : (byteVal (c :: r) 0).toNat = c.toNat := rfl
  have e1 : (c.toNat : Int) = 1 := by omega
  have ex : (x != 0) = false := by simp [hx]
  replace hst := hide hst
  replace hx := hide hx
  go_enter Tryd.func78, Tryd.ntmps78
  go_wp2_with (first | (go_at_call 36; (refine (rbyte_c _ b (c :: r) 0 _ hR0.out).mono ?_; rintro ee w1 ⟨rfl, hR1, hF1⟩; replace hR1 : Rdr w1 (w.heap.size :: S) b (r, 0) := hR1; rw [hbv, e1]; replace hR1 := hide hR1; have O1 := O0.out.fr hF1 (by simp; omega); have k0 := O1.cell 0 rfl; have k1 := O1.cell 1 rfl; have k2 := O1.cell 2 rfl; have zk0 := O1.free 0; have zk1 := O1.free 1; have zk2 := O1.free 2; have hlt1 := O1.lt; haveI : In w.heap.size w1 := ⟨hlt1⟩; have hFa := hide (hF0.out.trans hF1); have hz1 := hF1.size; simp only [World.size_alloc] at hz1; have hne6 : b ≠ w1.heap.size := (by have := hR1.out.blt; omega); have hn26 : w.heap.size ≠ w1.heap.size := (by omega); have hn62 : w1.heap.size ≠ w.heap.size := (by omega); have hR2 := hide hR1.out.front; have O6 := hide (ob_zero w1))) | (go_at_call 86; refine (rint_c _ b r 0 _ hR2.out).mono ?_; rintro ee w3 ⟨rfl, hR3, hF3⟩; rw [hst.out] at hR3; replace hR3 := hide hR3; have O3 := (O1.alloc (.cells #[.int .i64 0, .int .i64 0, .string ⟨#[]⟩] 58)).fr hF3 (by simp; omega); have O7 := O6.out.fr hF3 (by simp; omega); have m0 := O3.cell 0 rfl; have m1 := O3.cell 1 rfl; have m2 := O3.cell 2 rfl; have zm0 := O3.free 0; have zm1 := O3.free 1; have zm2 := O3.free 2; have n0 := O7.cell 0 rfl; have n1 := O7.cell 1 rfl; have n2 := O7.cell 2 rfl; have zn0 := O7.free 0; have zn1 := O7.free 1; have zn2 := O7.free 2; have hlt3 := O3.lt; have hlt7 := O7.lt; haveI : In w.heap.size w3 := ⟨hlt3⟩; haveI : In w1.heap.size w3 := ⟨hlt7⟩; have hFb := hide ((hFa.out.alloc (.cells #[.int .i64 0, .int .i64 0, .string ⟨#[]⟩] 58)).trans hF3)) | (go_at_call 85; refine seq_gw (vnum_c _ _) ?_; intro g) | (go_at_call 37; first | ((refine (err_c _ b q x _ (rdr_set3 (rdr_ext hR3.out g.grown) (by simp) hne6 _ _ _)).mono ?_; rintro ee w4 ⟨rfl, rfl⟩)) | ((refine (err_c _ b r 0 _ hR1.out).mono ?_; rintro ee w2 ⟨rfl, rfl⟩))))
  have hR4 := (rdr_set3 (rdr_ext hR3.out g.grown) (by simp) hne6 (.int .i64 1) (.int .i64 (unz (numVal 10 r 0))) (.string ⟨#[]⟩)).less (S' := w.heap.size :: S) (by intro y hy; rcases List.mem_cons.1 hy with h | h; simp [h]; simp [h]) (by simp [hbS])
  have hF4 := fr_set3 (B := w1.heap.size) (hFb.out.then (S' := []) (Fr.of_ext g.grown) (by simp)) (.inr (by omega)) (.int .i64 1) (.int .i64 (unz (numVal 10 r 0))) (.string ⟨#[]⟩)
  have h := read_end hR4 hbS hF4 hne (.int .i64 1) (.int .i64 (unz (numVal 10 r 0))) (.string ⟨#[]⟩)
  refine bodyPost_ret (by simp [results, Tryd.results78, go_sem, m0, m1, m2, n0, n1, n2, hn26, hn62]; try rfl) rfl ?_
  exact ⟨rfl, h⟩
set_option maxHeartbeats 4000000 in
set_option maxRecDepth 100000 in
theorem read_numE (S : List Nat) (b : Nat) (c : UInt8) (r : List UInt8) (h1 : c.toNat = 1) (q : List UInt8) (x : Int) (hst : numSt 10 r 0 = (q, x)) (hx : x ≠ 0) (w : World) (h : Rdr w S b (c :: r, 0)) : Calls Tryd.prog 78 #[.pointer (some ⟨b, 0, none⟩)] w fun z w' => z = .returned (.tuple #[val 0 0 ⟨#[]⟩, .int .i64 x]) ∧ Rdr w' S b (q, x) ∧ Fr [b] w w' := by
  have hb := h.blt
  have hbS := h.1
  have hR0 := hide h.front
  have O0 := hide (ob_zero w)
  have hF0 := hide (Fr.of_ext (S := [b]) ((Ext.refl w).alloc (.cells #[.int .i64 0, .int .i64 0, .string ⟨#[]⟩] 58)))
  have hne : b ≠ w.heap.size := by omega
  clear h
  have hbv : (byteVal (c :: r) 0).toNat = c.toNat := rfl
  have e1 : (c.toNat : Int) = 1 := by omega
  have ex : (x != 0) = true := by simp [hx]
  replace hst := hide hst
  replace hx := hide hx
  go_enter Tryd.func78, Tryd.ntmps78
  go_wp2_with (first | (go_at_call 36; (refine (rbyte_c _ b (c :: r) 0 _ hR0.out).mono ?_; rintro ee w1 ⟨rfl, hR1, hF1⟩; replace hR1 : Rdr w1 (w.heap.size :: S) b (r, 0) := hR1; rw [hbv, e1]; replace hR1 := hide hR1; have O1 := O0.out.fr hF1 (by simp; omega); have k0 := O1.cell 0 rfl; have k1 := O1.cell 1 rfl; have k2 := O1.cell 2 rfl; have zk0 := O1.free 0; have zk1 := O1.free 1; have zk2 := O1.free 2; have hlt1 := O1.lt; haveI : In w.heap.size w1 := ⟨hlt1⟩; have hFa := hide (hF0.out.trans hF1); have hz1 := hF1.size; simp only [World.size_alloc] at hz1; have hne6 : b ≠ w1.heap.size := (by have := hR1.out.blt; omega); have hn26 : w.heap.size ≠ w1.heap.size := (by omega); have hn62 : w1.heap.size ≠ w.heap.size := (by omega); have hR2 := hide hR1.out.front; have O6 := hide (ob_zero w1))) | (go_at_call 86; refine (rint_c _ b r 0 _ hR2.out).mono ?_; rintro ee w3 ⟨rfl, hR3, hF3⟩; rw [hst.out] at hR3; replace hR3 := hide hR3; have O3 := (O1.alloc (.cells #[.int .i64 0, .int .i64 0, .string ⟨#[]⟩] 58)).fr hF3 (by simp; omega); have O7 := O6.out.fr hF3 (by simp; omega); have m0 := O3.cell 0 rfl; have m1 := O3.cell 1 rfl; have m2 := O3.cell 2 rfl; have zm0 := O3.free 0; have zm1 := O3.free 1; have zm2 := O3.free 2; have n0 := O7.cell 0 rfl; have n1 := O7.cell 1 rfl; have n2 := O7.cell 2 rfl; have zn0 := O7.free 0; have zn1 := O7.free 1; have zn2 := O7.free 2; have hlt3 := O3.lt; have hlt7 := O7.lt; haveI : In w.heap.size w3 := ⟨hlt3⟩; haveI : In w1.heap.size w3 := ⟨hlt7⟩; have hFb := hide ((hFa.out.alloc (.cells #[.int .i64 0, .int .i64 0, .string ⟨#[]⟩] 58)).trans hF3)) | (go_at_call 85; refine seq_gw (vnum_c _ _) ?_; intro g) | (go_at_call 37; first | ((refine (err_c _ b q x _ (rdr_set3 (rdr_ext hR3.out g.grown) (by simp) hne6 _ _ _)).mono ?_; rintro ee w4 ⟨rfl, rfl⟩)) | ((refine (err_c _ b r 0 _ hR1.out).mono ?_; rintro ee w2 ⟨rfl, rfl⟩))))
  have hR4 := (rdr_set3 (rdr_ext hR3.out g.grown) (by simp) hne6 (.int .i64 1) (.int .i64 (unz (numVal 10 r 0))) (.string ⟨#[]⟩)).less (S' := w.heap.size :: S) (by intro y hy; rcases List.mem_cons.1 hy with h | h; simp [h]; simp [h]) (by simp [hbS])
  have hF4 := fr_set3 (B := w1.heap.size) (hFb.out.then (S' := []) (Fr.of_ext g.grown) (by simp)) (.inr (by omega)) (.int .i64 1) (.int .i64 (unz (numVal 10 r 0))) (.string ⟨#[]⟩)
  have h := read_end hR4 hbS hF4 hne (.int .i64 0) (.int .i64 0) (.string ⟨#[]⟩)
  refine bodyPost_ret (by simp [results, Tryd.results78, go_sem, m0, m1, m2, n0, n1, n2, hn26, hn62]; try rfl) rfl ?_
  exact ⟨rfl, h⟩
set_option maxHeartbeats 4000000 in
set_option maxRecDepth 100000 in
theorem read_text (S : List Nat) (b : Nat) (c : UInt8) (r : List UInt8) (h1 : c.toNat = 2) (q : List UInt8) (x : Int) (hst : textSt 64 r 0 = (q, x)) (hx : x = 0) (w : World) (h : Rdr w S b (c :: r, 0)) : Calls Tryd.prog 78 #[.pointer (some ⟨b, 0, none⟩)] w fun z w' => z = .returned (.tuple #[(val 2 0 ⟨(textVal 64 r 0).toArray⟩), .int .i64 0]) ∧ Rdr w' S b (q, x) ∧ Fr [b] w w' := by
  have hb := h.blt
  have hbS := h.1
  have hR0 := hide h.front
  have O0 := hide (ob_zero w)
  have hF0 := hide (Fr.of_ext (S := [b]) ((Ext.refl w).alloc (.cells #[.int .i64 0, .int .i64 0, .string ⟨#[]⟩] 58)))
  have hne : b ≠ w.heap.size := by omega
  clear h
  have hbv : (byteVal (c :: r) 0).toNat = c.toNat := rfl
  have e1 : (c.toNat : Int) = 2 := by omega
  have ex : (x != 0) = false := by simp [hx]
  have htx := hide (fun w => vtext_ok ⟨(textVal 64 r 0).toArray⟩ (by have := textVal_le r; show (textVal 64 r 0).toArray.size ≤ 64; simpa using this) w)
  replace hst := hide hst
  replace hx := hide hx
  go_enter Tryd.func78, Tryd.ntmps78
  go_wp2_with (first | (go_at_call 36; (refine (rbyte_c _ b (c :: r) 0 _ hR0.out).mono ?_; rintro ee w1 ⟨rfl, hR1, hF1⟩; replace hR1 : Rdr w1 (w.heap.size :: S) b (r, 0) := hR1; rw [hbv, e1]; replace hR1 := hide hR1; have O1 := O0.out.fr hF1 (by simp; omega); have k0 := O1.cell 0 rfl; have k1 := O1.cell 1 rfl; have k2 := O1.cell 2 rfl; have zk0 := O1.free 0; have zk1 := O1.free 1; have zk2 := O1.free 2; have hlt1 := O1.lt; haveI : In w.heap.size w1 := ⟨hlt1⟩; have hFa := hide (hF0.out.trans hF1); have hz1 := hF1.size; simp only [World.size_alloc] at hz1; have hne6 : b ≠ w1.heap.size := (by have := hR1.out.blt; omega); have hn26 : w.heap.size ≠ w1.heap.size := (by omega); have hn62 : w1.heap.size ≠ w.heap.size := (by omega); have hR2 := hide hR1.out.front; have O6 := hide (ob_zero w1))) | (go_at_call 88; refine (rtext_c _ b r 0 64 _ hR2.out).mono ?_; rintro ee w3 ⟨rfl, hR3, hF3⟩; rw [hst.out] at hR3; replace hR3 := hide hR3; have O3 := (O1.alloc (.cells #[.int .i64 0, .int .i64 0, .string ⟨#[]⟩] 58)).fr hF3 (by simp; omega); have O7 := O6.out.fr hF3 (by simp; omega); have m0 := O3.cell 0 rfl; have m1 := O3.cell 1 rfl; have m2 := O3.cell 2 rfl; have zm0 := O3.free 0; have zm1 := O3.free 1; have zm2 := O3.free 2; have n0 := O7.cell 0 rfl; have n1 := O7.cell 1 rfl; have n2 := O7.cell 2 rfl; have zn0 := O7.free 0; have zn1 := O7.free 1; have zn2 := O7.free 2; have hlt3 := O3.lt; have hlt7 := O7.lt; haveI : In w.heap.size w3 := ⟨hlt3⟩; haveI : In w1.heap.size w3 := ⟨hlt7⟩; have hFb := hide ((hFa.out.alloc (.cells #[.int .i64 0, .int .i64 0, .string ⟨#[]⟩] 58)).trans hF3)) | (go_at_call 87; refine seq_gw (htx.out _) ?_; intro g) | (go_at_call 37; first | ((refine (err_c _ b q x _ (rdr_set3 (rdr_ext hR3.out g.grown) (by simp) hne6 _ _ _)).mono ?_; rintro ee w4 ⟨rfl, rfl⟩)) | ((refine (err_c _ b r 0 _ hR1.out).mono ?_; rintro ee w2 ⟨rfl, rfl⟩))))
  have hR4 := (rdr_set3 (rdr_ext hR3.out g.grown) (by simp) hne6 (.int .i64 2) (.int .i64 0) (.string ⟨(textVal 64 r 0).toArray⟩)).less (S' := w.heap.size :: S) (by intro y hy; rcases List.mem_cons.1 hy with h | h; simp [h]; simp [h]) (by simp [hbS])
  have hF4 := fr_set3 (B := w1.heap.size) (hFb.out.then (S' := []) (Fr.of_ext g.grown) (by simp)) (.inr (by omega)) (.int .i64 2) (.int .i64 0) (.string ⟨(textVal 64 r 0).toArray⟩)
  have h := read_end hR4 hbS hF4 hne (.int .i64 2) (.int .i64 0) (.string ⟨(textVal 64 r 0).toArray⟩)
  refine bodyPost_ret (by simp [results, Tryd.results78, go_sem, m0, m1, m2, n0, n1, n2, hn26, hn62]; try rfl) rfl ?_
  exact ⟨rfl, h⟩
set_option maxHeartbeats 4000000 in
set_option maxRecDepth 100000 in
theorem read_textE (S : List Nat) (b : Nat) (c : UInt8) (r : List UInt8) (h1 : c.toNat = 2) (q : List UInt8) (x : Int) (hst : textSt 64 r 0 = (q, x)) (hx : x ≠ 0) (w : World) (h : Rdr w S b (c :: r, 0)) : Calls Tryd.prog 78 #[.pointer (some ⟨b, 0, none⟩)] w fun z w' => z = .returned (.tuple #[val 0 0 ⟨#[]⟩, .int .i64 x]) ∧ Rdr w' S b (q, x) ∧ Fr [b] w w' := by
  have hb := h.blt
  have hbS := h.1
  have hR0 := hide h.front
  have O0 := hide (ob_zero w)
  have hF0 := hide (Fr.of_ext (S := [b]) ((Ext.refl w).alloc (.cells #[.int .i64 0, .int .i64 0, .string ⟨#[]⟩] 58)))
  have hne : b ≠ w.heap.size := by omega
  clear h
  have hbv : (byteVal (c :: r) 0).toNat = c.toNat := rfl
  have e1 : (c.toNat : Int) = 2 := by omega
  have ex : (x != 0) = true := by simp [hx]
  have htx := hide (fun w => vtext_ok ⟨(textVal 64 r 0).toArray⟩ (by have := textVal_le r; show (textVal 64 r 0).toArray.size ≤ 64; simpa using this) w)
  replace hst := hide hst
  replace hx := hide hx
  go_enter Tryd.func78, Tryd.ntmps78
  go_wp2_with (first | (go_at_call 36; (refine (rbyte_c _ b (c :: r) 0 _ hR0.out).mono ?_; rintro ee w1 ⟨rfl, hR1, hF1⟩; replace hR1 : Rdr w1 (w.heap.size :: S) b (r, 0) := hR1; rw [hbv, e1]; replace hR1 := hide hR1; have O1 := O0.out.fr hF1 (by simp; omega); have k0 := O1.cell 0 rfl; have k1 := O1.cell 1 rfl; have k2 := O1.cell 2 rfl; have zk0 := O1.free 0; have zk1 := O1.free 1; have zk2 := O1.free 2; have hlt1 := O1.lt; haveI : In w.heap.size w1 := ⟨hlt1⟩; have hFa := hide (hF0.out.trans hF1); have hz1 := hF1.size; simp only [World.size_alloc] at hz1; have hne6 : b ≠ w1.heap.size := (by have := hR1.out.blt; omega); have hn26 : w.heap.size ≠ w1.heap.size := (by omega); have hn62 : w1.heap.size ≠ w.heap.size := (by omega); have hR2 := hide hR1.out.front; have O6 := hide (ob_zero w1))) | (go_at_call 88; refine (rtext_c _ b r 0 64 _ hR2.out).mono ?_; rintro ee w3 ⟨rfl, hR3, hF3⟩; rw [hst.out] at hR3; replace hR3 := hide hR3; have O3 := (O1.alloc (.cells #[.int .i64 0, .int .i64 0, .string ⟨#[]⟩] 58)).fr hF3 (by simp; omega); have O7 := O6.out.fr hF3 (by simp; omega); have m0 := O3.cell 0 rfl; have m1 := O3.cell 1 rfl; have m2 := O3.cell 2 rfl; have zm0 := O3.free 0; have zm1 := O3.free 1; have zm2 := O3.free 2; have n0 := O7.cell 0 rfl; have n1 := O7.cell 1 rfl; have n2 := O7.cell 2 rfl; have zn0 := O7.free 0; have zn1 := O7.free 1; have zn2 := O7.free 2; have hlt3 := O3.lt; have hlt7 := O7.lt; haveI : In w.heap.size w3 := ⟨hlt3⟩; haveI : In w1.heap.size w3 := ⟨hlt7⟩; have hFb := hide ((hFa.out.alloc (.cells #[.int .i64 0, .int .i64 0, .string ⟨#[]⟩] 58)).trans hF3)) | (go_at_call 87; refine seq_gw (htx.out _) ?_; intro g) | (go_at_call 37; first | ((refine (err_c _ b q x _ (rdr_set3 (rdr_ext hR3.out g.grown) (by simp) hne6 _ _ _)).mono ?_; rintro ee w4 ⟨rfl, rfl⟩)) | ((refine (err_c _ b r 0 _ hR1.out).mono ?_; rintro ee w2 ⟨rfl, rfl⟩))))
  have hR4 := (rdr_set3 (rdr_ext hR3.out g.grown) (by simp) hne6 (.int .i64 2) (.int .i64 0) (.string ⟨(textVal 64 r 0).toArray⟩)).less (S' := w.heap.size :: S) (by intro y hy; rcases List.mem_cons.1 hy with h | h; simp [h]; simp [h]) (by simp [hbS])
  have hF4 := fr_set3 (B := w1.heap.size) (hFb.out.then (S' := []) (Fr.of_ext g.grown) (by simp)) (.inr (by omega)) (.int .i64 2) (.int .i64 0) (.string ⟨(textVal 64 r 0).toArray⟩)
  have h := read_end hR4 hbS hF4 hne (.int .i64 0) (.int .i64 0) (.string ⟨#[]⟩)
  refine bodyPost_ret (by simp [results, Tryd.results78, go_sem, m0, m1, m2, n0, n1, n2, hn26, hn62]; try rfl) rfl ?_
  exact ⟨rfl, h⟩
/-- The next value. -/
def vl (a : Vl) : Value := val a.1 a.2.1 a.2.2
theorem vread_c (S : List Nat) (b : Nat) (l : List UInt8) (w : World) (h : Rdr w S b (l, 0)) : Calls Tryd.prog 78 #[.pointer (some ⟨b, 0, none⟩)] w fun z w' => z = .returned (.tuple #[vl (rdV l), .int .i64 (rdE l)]) ∧ Rdr w' S b (rdS l) ∧ Fr [b] w w' := by
  rcases l with _ | ⟨c, r⟩
  · exact read_nil S b w h
  · by_cases h1 : c.toNat = 1
    · have e : rdE (c :: r) = (numSt 10 r 0).2 := by simp [rdE, h1]
      have es : rdS (c :: r) = numSt 10 r 0 := by simp [rdS, h1]
      by_cases hx : (numSt 10 r 0).2 = 0
      · have ev : rdV (c :: r) = (1, unz (numVal 10 r 0), ⟨#[]⟩) := by unfold rdV; rw [e, if_pos hx]; simp [h1]
        rw [e, es, ev, hx]
        exact read_num S b c r h1 _ _ rfl hx w h
      · have ev : rdV (c :: r) = (0, 0, ⟨#[]⟩) := by unfold rdV; rw [e, if_neg hx]
        rw [e, es, ev]
        exact read_numE S b c r h1 _ _ rfl hx w h
    · by_cases h2 : c.toNat = 2
      · have e : rdE (c :: r) = (textSt 64 r 0).2 := by simp [rdE, h1, h2]
        have es : rdS (c :: r) = textSt 64 r 0 := by simp [rdS, h1, h2]
        by_cases hx : (textSt 64 r 0).2 = 0
        · have ev : rdV (c :: r) = (2, 0, ⟨(textVal 64 r 0).toArray⟩) := by unfold rdV; rw [e, if_pos hx]; simp [h1]
          rw [e, es, ev, hx]
          exact read_text S b c r h2 _ _ rfl hx w h
        · have ev : rdV (c :: r) = (0, 0, ⟨#[]⟩) := by unfold rdV; rw [e, if_neg hx]
          rw [e, es, ev]
          exact read_textE S b c r h2 _ _ rfl hx w h
      · have e : rdE (c :: r) = 4 := by simp [rdE, h1, h2]
        have es : rdS (c :: r) = (r, 0) := by simp [rdS, h1, h2]
        have ev : rdV (c :: r) = (0, 0, ⟨#[]⟩) := by unfold rdV; rw [e, if_neg (by decide)]
        rw [e, es, ev]
        exact read_other S b c r h1 h2 w h
end Go.Proofs.YthidjngipkelcaaDoor
