/-
  A helper of ours: no claim of its own. Layer 17 (expr): a word that was written is read, by the code.
-/
import Derived.Test.YtopgapbipmblbaaExpP
import Derived.Test.YtopgapbipmblbaaValX
set_option linter.unusedVariables false
set_option linter.unusedSimpArgs false
namespace Go.Proofs.Ytopgapbipmblbaa
open Go.RowKit
attribute [local go_sem] GW.cell GW.frozen In.eq_true In.le_true In.ne In.ne' In.ne_add In.ne_add' In.lt_add Upto.le_true Upto.le_add Upto.lt_add
theorem Rdr.frontO {w : World} {S : List Nat} {b : Nat} {st : List UInt8 × Int} (h : Rdr w S b st) (o : Obj) : Rdr (w.alloc o) (w.heap.size :: S) b st :=
  rdr_ext (h.more (fun x hx => by rcases List.mem_cons.1 hx with rfl | hx; exact .inr (Nat.le_refl _); exact .inl hx) (by simp [h.1])) ((Ext.refl w).alloc _)
theorem rdr_set1 {w : World} {S : List Nat} {b B i : Nat} {st : List UInt8 × Int} (h : Rdr w S b st) (hB : B ∈ S) (hne : b ≠ B) (u : Value) : Rdr (w.setCell ⟨B, i, none⟩ u) S b st :=
  h.fr (S' := [B]) ((Fr.refl [B] w).setCell _ _ (.inl (by simp))) (by simp; exact hne) (by simp; exact hB)
theorem code_byte {c : Int} (h1 : 1 ≤ c) (h2 : c ≤ 20) : (((UInt8.ofNat c.toNat).toNat : Nat) : Int) = c := by
  rw [show (UInt8.ofNat c.toNat).toNat = c.toNat % 256 from rfl, Nat.mod_eq_of_lt (by omega)]; omega
theorem byte_first (x : UInt8) (r : List UInt8) : (byteVal (x :: r) 0).toNat = x.toNat := rfl
set_option maxHeartbeats 8000000 in
set_option maxRecDepth 100000 in
theorem readOp_1 (S : List Nat) (b : Nat) (n : Int) (hn : -9223372036854775808 ≤ n ∧ n ≤ 9223372036854775807) (r : List UInt8) (w : World) (h : Rdr w S b (UInt8.ofNat (Int.toNat 1) :: ((intB n) ++ r), 0)) : Calls Try.prog 35 #[.pointer (some ⟨b, 0, none⟩)] w fun z w' => z = .returned (.tuple #[val 1 n ⟨#[]⟩, .int .i64 0]) ∧ Rdr w' S b (r, 0) ∧ Fr [b] w w' := by
  have hb := h.blt
  have hbS := h.1
  have hR0 := hide (h.frontO (.cells #[.int .i64 0, .int .i64 0, .string ⟨#[]⟩] 57))
  have O0 := hide (Ob.new w 57 zv)
  have hF0 := hide (Fr.of_ext (S := [b]) ((Ext.refl w).alloc (.cells #[.int .i64 0, .int .i64 0, .string ⟨#[]⟩] 57)))
  have hne : b ≠ w.heap.size := by omega
  clear h
  have hbv := hide (byte_first (UInt8.ofNat (Int.toNat 1)) ((intB n) ++ r))
  have hcb := hide (code_byte (c := 1) (by omega) (by omega))
  have htk := hide (fun w => takes_c 1 w)
  have hib := hide (int_back n hn r)
  rw [show tkI 1 = 0 from rfl] at htk
  go_enter Try.func35, Try.ntmps35
  go_wp2_with (first | (go_at_call 33; (refine (rbyte_c _ b _ 0 _ hR0.out).mono ?_; rintro ee w1 ⟨rfl, hR1, hF1⟩; replace hR1 : Rdr w1 (w.heap.size :: S) b ((intB n) ++ r, 0) := hR1; rw [hbv.out, hcb.out]; clear hbv hcb hR0; have O1 := hide (O0.out.fr hF1 (by simp; omega)); have hFa := hide (hF0.out.trans hF1); have hz1 := hF1.size; simp only [World.size_alloc] at hz1; have hne6 : b ≠ w1.heap.size := (by have := hR1.blt; omega); have hn26 : w.heap.size ≠ w1.heap.size := (by omega); have hn62 : w1.heap.size ≠ w.heap.size := (by omega); have hR2 := hide (hR1.frontO (.cells #[.int .i64 1, .int .i64 0, .string ⟨#[]⟩] 57)); have O6 := hide (Ob.new w1 57 [.int .i64 1, .int .i64 0, .string ⟨#[]⟩]))) | (go_at_call 34; (refine (err_c _ b _ 0 _ hR2.out).mono ?_; rintro ee w2 ⟨rfl, rfl⟩)) | (go_at_call 31; (with_reducible refine seq_gw (htk.out _) ?_); intro g; have hzg := GW.size g; have hRg := hide (rdr_ext hR2.out g.grown); have O6g := hide (O6.out.ext g.grown); have O1g := hide ((O1.out.alloc (.cells #[.int .i64 1, .int .i64 0, .string ⟨#[]⟩] 57)).ext g.grown); have hFg := hide ((hFa.out.alloc (.cells #[.int .i64 1, .int .i64 0, .string ⟨#[]⟩] 57)).trans (Fr.of_ext g.grown)); clear hR2 htk ) | (go_at_call 56; (refine (rint_c _ b _ 0 _ hRg.out).mono ?_; rintro ee w3 ⟨rfl, hR3, hF3⟩; rw [hib.out.1]; replace hR3 := (show Rdr w3 _ b (r, 0) by have := hR3; rw [hib.out.2] at this; exact this); have O6c := hide (O6g.out.fr hF3 (by simp; omega)); have O1c := hide (O1g.out.fr hF3 (by simp; omega)); have hFb := hide (hFg.out.trans hF3); have s0 := O6c.out.cell 0 rfl; have s1 := O6c.out.cell 1 rfl; have s2 := O6c.out.cell 2 rfl; have sf := fun i => O6c.out.free i; have sl := O6c.out.lt; have z0 := O1c.out.cell 0 rfl; have z1 := O1c.out.cell 1 rfl; have z2 := O1c.out.cell 2 rfl; have zf := fun i => O1c.out.free i; have zl := O1c.out.lt; have hR4 := hide (rdr_set1 (i := 1) hR3 (B := w1.heap.size) (by simp) hne6 (.int .i64 n)); clear hRg)) | (go_at_call 34; (refine (err_c _ b _ 0 _ hR4.out).mono ?_; rintro ee w2 ⟨rfl, rfl⟩)))
  have kk := ((((O1c.out.far ⟨w1.heap.size, 1, none⟩ (.int .i64 n) hn26).set 0 (.int .i64 1)).set 1 (.int .i64 n)).set 2 (.string ⟨#[]⟩))
  have hRe := ((rdr_set1 (i := 2) (rdr_set1 (i := 1) (rdr_set1 (i := 0) hR4.out (B := w.heap.size) (by simp) hne (.int .i64 1)) (by simp) hne (.int .i64 n)) (by simp) hne (.string ⟨#[]⟩))).less (S' := S) (fun x hx => by simp [hx]) hbS
  have hFe := (((hFb.out.setCell ⟨w1.heap.size, 1, none⟩ (.int .i64 n) (.inr (by simp; omega))).setCell ⟨w.heap.size, 0, none⟩ (.int .i64 1) (.inr (Nat.le_refl _))).setCell ⟨w.heap.size, 1, none⟩ (.int .i64 n) (.inr (Nat.le_refl _))).setCell ⟨w.heap.size, 2, none⟩ (.string ⟨#[]⟩) (.inr (Nat.le_refl _))
  have q0 := kk.cell 0 rfl
  have q1 := kk.cell 1 rfl
  have q2 := kk.cell 2 rfl
  refine bodyPost_ret (by simp [results, Try.results35, go_sem, q0, q1, q2]; try rfl) rfl ?_
  exact ⟨rfl, hRe, hFe⟩
set_option maxHeartbeats 8000000 in
set_option maxRecDepth 100000 in
theorem readOp_2 (S : List Nat) (b : Nat) (s : ByteArray) (hs : s.size ≤ 64) (r : List UInt8) (w : World) (h : Rdr w S b (UInt8.ofNat (Int.toNat 2) :: ((textB s.data.toList) ++ r), 0)) : Calls Try.prog 35 #[.pointer (some ⟨b, 0, none⟩)] w fun z w' => z = .returned (.tuple #[val 2 0 s, .int .i64 0]) ∧ Rdr w' S b (r, 0) ∧ Fr [b] w w' := by
  have hb := h.blt
  have hbS := h.1
  have hR0 := hide (h.frontO (.cells #[.int .i64 0, .int .i64 0, .string ⟨#[]⟩] 57))
  have O0 := hide (Ob.new w 57 zv)
  have hF0 := hide (Fr.of_ext (S := [b]) ((Ext.refl w).alloc (.cells #[.int .i64 0, .int .i64 0, .string ⟨#[]⟩] 57)))
  have hne : b ≠ w.heap.size := by omega
  clear h
  have hbv := hide (byte_first (UInt8.ofNat (Int.toNat 2)) ((textB s.data.toList) ++ r))
  have hcb := hide (code_byte (c := 2) (by omega) (by omega))
  have htk := hide (fun w => takes_c 2 w)
  have hib := hide (text_back' s.data.toList (by rw [Array.length_toList]; exact hs) r)
  rw [show tkI 2 = 0 from rfl] at htk
  go_enter Try.func35, Try.ntmps35
  go_wp2_with (first | (go_at_call 33; (refine (rbyte_c _ b _ 0 _ hR0.out).mono ?_; rintro ee w1 ⟨rfl, hR1, hF1⟩; replace hR1 : Rdr w1 (w.heap.size :: S) b ((textB s.data.toList) ++ r, 0) := hR1; rw [hbv.out, hcb.out]; clear hbv hcb hR0; have O1 := hide (O0.out.fr hF1 (by simp; omega)); have hFa := hide (hF0.out.trans hF1); have hz1 := hF1.size; simp only [World.size_alloc] at hz1; have hne6 : b ≠ w1.heap.size := (by have := hR1.blt; omega); have hn26 : w.heap.size ≠ w1.heap.size := (by omega); have hn62 : w1.heap.size ≠ w.heap.size := (by omega); have hR2 := hide (hR1.frontO (.cells #[.int .i64 2, .int .i64 0, .string ⟨#[]⟩] 57)); have O6 := hide (Ob.new w1 57 [.int .i64 2, .int .i64 0, .string ⟨#[]⟩]))) | (go_at_call 34; (refine (err_c _ b _ 0 _ hR2.out).mono ?_; rintro ee w2 ⟨rfl, rfl⟩)) | (go_at_call 31; (with_reducible refine seq_gw (htk.out _) ?_); intro g; have hzg := GW.size g; have hRg := hide (rdr_ext hR2.out g.grown); have O6g := hide (O6.out.ext g.grown); have O1g := hide ((O1.out.alloc (.cells #[.int .i64 2, .int .i64 0, .string ⟨#[]⟩] 57)).ext g.grown); have hFg := hide ((hFa.out.alloc (.cells #[.int .i64 2, .int .i64 0, .string ⟨#[]⟩] 57)).trans (Fr.of_ext g.grown)); clear hR2 htk ) | (go_at_call 57; go_loud (refine (rtext_c _ b _ 0 64 _ hRg.out).mono ?_; rintro ee w3 ⟨rfl, hR3, hF3⟩; rw [hib.out.1]; replace hR3 := (show Rdr w3 _ b (r, 0) by have := hR3; rw [hib.out.2] at this; exact this); rw [show (⟨s.data.toList.toArray⟩ : ByteArray) = s by apply ByteArray.ext; simp]; have O6c := hide (O6g.out.fr hF3 (by simp; omega)); have O1c := hide (O1g.out.fr hF3 (by simp; omega)); have hFb := hide (hFg.out.trans hF3); have s0 := O6c.out.cell 0 rfl; have s1 := O6c.out.cell 1 rfl; have s2 := O6c.out.cell 2 rfl; have sf := fun i => O6c.out.free i; have sl := O6c.out.lt; have z0 := O1c.out.cell 0 rfl; have z1 := O1c.out.cell 1 rfl; have z2 := O1c.out.cell 2 rfl; have zf := fun i => O1c.out.free i; have zl := O1c.out.lt; have hR4 := hide (rdr_set1 (i := 2) hR3 (B := w1.heap.size) (by simp) hne6 (.string s)); clear hRg)) | (go_at_call 34; (refine (err_c _ b _ 0 _ hR4.out).mono ?_; rintro ee w2 ⟨rfl, rfl⟩)))
  have kk := ((((O1c.out.far ⟨w1.heap.size, 2, none⟩ (.string s) hn26).set 0 (.int .i64 2)).set 1 (.int .i64 0)).set 2 (.string s))
  have hRe := ((rdr_set1 (i := 2) (rdr_set1 (i := 1) (rdr_set1 (i := 0) hR4.out (B := w.heap.size) (by simp) hne (.int .i64 2)) (by simp) hne (.int .i64 0)) (by simp) hne (.string s))).less (S' := S) (fun x hx => by simp [hx]) hbS
  have hFe := (((hFb.out.setCell ⟨w1.heap.size, 2, none⟩ (.string s) (.inr (by simp; omega))).setCell ⟨w.heap.size, 0, none⟩ (.int .i64 2) (.inr (Nat.le_refl _))).setCell ⟨w.heap.size, 1, none⟩ (.int .i64 0) (.inr (Nat.le_refl _))).setCell ⟨w.heap.size, 2, none⟩ (.string s) (.inr (Nat.le_refl _))
  have q0 := kk.cell 0 rfl
  have q1 := kk.cell 1 rfl
  have q2 := kk.cell 2 rfl
  refine bodyPost_ret (by simp [results, Try.results35, go_sem, q0, q1, q2]; try rfl) rfl ?_
  exact ⟨rfl, hRe, hFe⟩
set_option maxHeartbeats 8000000 in
set_option maxRecDepth 100000 in
theorem readOp_3 (S : List Nat) (b : Nat) (n : Int) (hn : 0 ≤ n ∧ n < 8) (r : List UInt8) (w : World) (h : Rdr w S b (UInt8.ofNat (Int.toNat 3) :: (([UInt8.ofNat n.toNat]) ++ r), 0)) : Calls Try.prog 35 #[.pointer (some ⟨b, 0, none⟩)] w fun z w' => z = .returned (.tuple #[val 3 n ⟨#[]⟩, .int .i64 0]) ∧ Rdr w' S b (r, 0) ∧ Fr [b] w w' := by
  have hb := h.blt
  have hbS := h.1
  have hR0 := hide (h.frontO (.cells #[.int .i64 0, .int .i64 0, .string ⟨#[]⟩] 57))
  have O0 := hide (Ob.new w 57 zv)
  have hF0 := hide (Fr.of_ext (S := [b]) ((Ext.refl w).alloc (.cells #[.int .i64 0, .int .i64 0, .string ⟨#[]⟩] 57)))
  have hne : b ≠ w.heap.size := by omega
  clear h
  have hbv := hide (byte_first (UInt8.ofNat (Int.toNat 3)) (([UInt8.ofNat n.toNat]) ++ r))
  have hcb := hide (code_byte (c := 3) (by omega) (by omega))
  have htk := hide (fun w => takes_c 3 w)
  have hb3 : Hid ((((byteVal ([UInt8.ofNat n.toNat] ++ r) 0).toNat : Nat) : Int) = n) := by
    show _ = _
    rw [show (byteVal ([UInt8.ofNat n.toNat] ++ r) 0).toNat = n.toNat % 256 from rfl, Nat.mod_eq_of_lt (by omega)]; omega
  rw [show tkI 3 = 0 from rfl] at htk
  go_enter Try.func35, Try.ntmps35
  go_wp2_with (first | (go_at_call 33; (refine (rbyte_c _ b _ 0 _ hR0.out).mono ?_; rintro ee w1 ⟨rfl, hR1, hF1⟩; replace hR1 : Rdr w1 (w.heap.size :: S) b (([UInt8.ofNat n.toNat]) ++ r, 0) := hR1; rw [hbv.out, hcb.out]; clear hbv hcb hR0; have O1 := hide (O0.out.fr hF1 (by simp; omega)); have hFa := hide (hF0.out.trans hF1); have hz1 := hF1.size; simp only [World.size_alloc] at hz1; have hne6 : b ≠ w1.heap.size := (by have := hR1.blt; omega); have hn26 : w.heap.size ≠ w1.heap.size := (by omega); have hn62 : w1.heap.size ≠ w.heap.size := (by omega); have hR2 := hide (hR1.frontO (.cells #[.int .i64 3, .int .i64 0, .string ⟨#[]⟩] 57)); have O6 := hide (Ob.new w1 57 [.int .i64 3, .int .i64 0, .string ⟨#[]⟩]))) | (go_at_call 34; (refine (err_c _ b _ 0 _ hR2.out).mono ?_; rintro ee w2 ⟨rfl, rfl⟩)) | (go_at_call 31; (with_reducible refine seq_gw (htk.out _) ?_); intro g; have hzg := GW.size g; have hRg := hide (rdr_ext hR2.out g.grown); have O6g := hide (O6.out.ext g.grown); have O1g := hide ((O1.out.alloc (.cells #[.int .i64 3, .int .i64 0, .string ⟨#[]⟩] 57)).ext g.grown); have hFg := hide ((hFa.out.alloc (.cells #[.int .i64 3, .int .i64 0, .string ⟨#[]⟩] 57)).trans (Fr.of_ext g.grown)); clear hR2 htk ) | (go_at_call 33; (refine (rbyte_c _ b _ 0 _ hRg.out).mono ?_; rintro ee w3 ⟨rfl, hR3, hF3⟩; rw [hb3.out]; replace hR3 := (show Rdr w3 _ b (r, 0) from hR3); have O6c := hide (O6g.out.fr hF3 (by simp; omega)); have O1c := hide (O1g.out.fr hF3 (by simp; omega)); have hFb := hide (hFg.out.trans hF3); have s0 := O6c.out.cell 0 rfl; have s1 := O6c.out.cell 1 rfl; have s2 := O6c.out.cell 2 rfl; have sf := fun i => O6c.out.free i; have sl := O6c.out.lt; have z0 := O1c.out.cell 0 rfl; have z1 := O1c.out.cell 1 rfl; have z2 := O1c.out.cell 2 rfl; have zf := fun i => O1c.out.free i; have zl := O1c.out.lt; have hR4 := hide (rdr_set1 (i := 1) hR3 (B := w1.heap.size) (by simp) hne6 (.int .i64 n)); clear hRg)) | (go_at_call 34; (refine (err_c _ b _ 0 _ hR4.out).mono ?_; rintro ee w2 ⟨rfl, rfl⟩)))
  have kk := ((((O1c.out.far ⟨w1.heap.size, 1, none⟩ (.int .i64 n) hn26).set 0 (.int .i64 3)).set 1 (.int .i64 n)).set 2 (.string ⟨#[]⟩))
  have hRe := ((rdr_set1 (i := 2) (rdr_set1 (i := 1) (rdr_set1 (i := 0) hR4.out (B := w.heap.size) (by simp) hne (.int .i64 3)) (by simp) hne (.int .i64 n)) (by simp) hne (.string ⟨#[]⟩))).less (S' := S) (fun x hx => by simp [hx]) hbS
  have hFe := (((hFb.out.setCell ⟨w1.heap.size, 1, none⟩ (.int .i64 n) (.inr (by simp; omega))).setCell ⟨w.heap.size, 0, none⟩ (.int .i64 3) (.inr (Nat.le_refl _))).setCell ⟨w.heap.size, 1, none⟩ (.int .i64 n) (.inr (Nat.le_refl _))).setCell ⟨w.heap.size, 2, none⟩ (.string ⟨#[]⟩) (.inr (Nat.le_refl _))
  have q0 := kk.cell 0 rfl
  have q1 := kk.cell 1 rfl
  have q2 := kk.cell 2 rfl
  refine bodyPost_ret (by simp [results, Try.results35, go_sem, q0, q1, q2]; try rfl) rfl ?_
  exact ⟨rfl, hRe, hFe⟩
set_option maxHeartbeats 8000000 in
set_option maxRecDepth 100000 in
theorem readOp_4 (S : List Nat) (b : Nat) (c : Int) (hc : 4 ≤ c ∧ c ≤ 20) (r : List UInt8) (w : World) (h : Rdr w S b (UInt8.ofNat (Int.toNat c) :: (([] : List UInt8) ++ r), 0)) : Calls Try.prog 35 #[.pointer (some ⟨b, 0, none⟩)] w fun z w' => z = .returned (.tuple #[val c 0 ⟨#[]⟩, .int .i64 0]) ∧ Rdr w' S b (r, 0) ∧ Fr [b] w w' := by
  have hb := h.blt
  have hbS := h.1
  have hR0 := hide (h.frontO (.cells #[.int .i64 0, .int .i64 0, .string ⟨#[]⟩] 57))
  have O0 := hide (Ob.new w 57 zv)
  have hF0 := hide (Fr.of_ext (S := [b]) ((Ext.refl w).alloc (.cells #[.int .i64 0, .int .i64 0, .string ⟨#[]⟩] 57)))
  have hne : b ≠ w.heap.size := by omega
  clear h
  have hbv := hide (byte_first (UInt8.ofNat (Int.toNat c)) (([] : List UInt8) ++ r))
  have hcb := hide (code_byte (c := c) (by omega) (by omega))
  have htk := hide (fun w => takes_c c w)
  obtain ⟨tk, htk0⟩ : ∃ tk, tk = tkI c := ⟨_, rfl⟩
  have htkp : ¬ tk < 0 := by rw [htk0]; unfold tkI; split <;> (try split) <;> (try split) <;> omega
  rw [← htk0] at htk
  have e1 : (c == 1) = false := by simp; omega
  have e2 : (c == 2) = false := by simp; omega
  have e3 : (c == 3) = false := by simp; omega
  clear htk0
  go_enter Try.func35, Try.ntmps35
  go_wp2_with (first | (go_at_call 33; (refine (rbyte_c _ b _ 0 _ hR0.out).mono ?_; rintro ee w1 ⟨rfl, hR1, hF1⟩; replace hR1 : Rdr w1 (w.heap.size :: S) b (([] : List UInt8) ++ r, 0) := hR1; rw [hbv.out, hcb.out]; clear hbv hcb hR0; have O1 := hide (O0.out.fr hF1 (by simp; omega)); have hFa := hide (hF0.out.trans hF1); have hz1 := hF1.size; simp only [World.size_alloc] at hz1; have hne6 : b ≠ w1.heap.size := (by have := hR1.blt; omega); have hn26 : w.heap.size ≠ w1.heap.size := (by omega); have hn62 : w1.heap.size ≠ w.heap.size := (by omega); have hR2 := hide (hR1.frontO (.cells #[.int .i64 c, .int .i64 0, .string ⟨#[]⟩] 57)); have O6 := hide (Ob.new w1 57 [.int .i64 c, .int .i64 0, .string ⟨#[]⟩]))) | (go_at_call 34; (refine (err_c _ b _ 0 _ hR2.out).mono ?_; rintro ee w2 ⟨rfl, rfl⟩)) | (go_at_call 31; (with_reducible refine seq_gw (htk.out _) ?_); intro g; have hzg := GW.size g; have hRg := hide (rdr_ext hR2.out g.grown); have O6g := hide (O6.out.ext g.grown); have O1g := hide ((O1.out.alloc (.cells #[.int .i64 c, .int .i64 0, .string ⟨#[]⟩] 57)).ext g.grown); have hFg := hide ((hFa.out.alloc (.cells #[.int .i64 c, .int .i64 0, .string ⟨#[]⟩] 57)).trans (Fr.of_ext g.grown)); clear hR2 htk ; have z0 := O1g.out.cell 0 rfl; have z1 := O1g.out.cell 1 rfl; have z2 := O1g.out.cell 2 rfl; have zf := fun i => O1g.out.free i; have zl := O1g.out.lt) | (go_at_call 34; (refine (err_c _ b _ 0 _ hRg.out).mono ?_; rintro ee w2 ⟨rfl, rfl⟩)))
  have kk := (((O1g.out.set 0 (.int .i64 c)).set 1 (.int .i64 0)).set 2 (.string ⟨#[]⟩))
  have hRe := ((rdr_set1 (i := 2) (rdr_set1 (i := 1) (rdr_set1 (i := 0) hRg.out (B := w.heap.size) (by simp) hne (.int .i64 c)) (by simp) hne (.int .i64 0)) (by simp) hne (.string ⟨#[]⟩))).less (S' := S) (fun x hx => by simp [hx]) hbS
  have hFe := ((hFg.out.setCell ⟨w.heap.size, 0, none⟩ (.int .i64 c) (.inr (Nat.le_refl _))).setCell ⟨w.heap.size, 1, none⟩ (.int .i64 0) (.inr (Nat.le_refl _))).setCell ⟨w.heap.size, 2, none⟩ (.string ⟨#[]⟩) (.inr (Nat.le_refl _))
  have q0 := kk.cell 0 rfl
  have q1 := kk.cell 1 rfl
  have q2 := kk.cell 2 rfl
  refine bodyPost_ret (by simp [results, Try.results35, go_sem, q0, q1, q2]; try rfl) rfl ?_
  exact ⟨rfl, hRe, hFe⟩
theorem readOp_c (S : List Nat) (b : Nat) (o : Vl) (ho : okW o = true) (hi : inW o) (r : List UInt8) (w : World) (h : Rdr w S b (wordB o ++ r, 0)) : Calls Try.prog 35 #[.pointer (some ⟨b, 0, none⟩)] w fun z w' => z = .returned (.tuple #[val o.1 o.2.1 o.2.2, .int .i64 0]) ∧ Rdr w' S b (r, 0) ∧ Fr [b] w w' := by
  obtain ⟨c, n, s⟩ := o
  have hc := ok_code ho
  have h2 : Rdr w S b (UInt8.ofNat c.toNat :: (argB (c, n, s) ++ r), 0) := h
  simp only at hc
  by_cases h1 : c = 1
  · subst h1
    have hs : s = ⟨#[]⟩ := empty_of (by unfold okW at ho; rw [if_pos rfl, decide_eq_true_iff] at ho; exact ho)
    subst hs
    exact readOp_1 S b n hi r w h2
  by_cases h2' : c = 2
  · subst h2'
    unfold okW at ho
    rw [if_neg (show ¬ (2 : Int) = 1 by decide), if_pos rfl, Bool.and_eq_true, decide_eq_true_iff, decide_eq_true_iff] at ho
    have hn : n = 0 := ho.1
    subst hn
    exact readOp_2 S b s ho.2 r w h2
  by_cases h3 : c = 3
  · subst h3
    rw [okW_3, Bool.and_eq_true, decide_eq_true_iff, decide_eq_true_iff] at ho
    have hs : s = ⟨#[]⟩ := empty_of ho.2
    subst hs
    exact readOp_3 S b n ho.1 r w h2
  · unfold okW at ho
    rw [if_neg h1, if_neg h2', if_neg h3, Bool.and_eq_true, Bool.and_eq_true, decide_eq_true_iff, decide_eq_true_iff, decide_eq_true_iff] at ho
    have hn : n = 0 := ho.2.1
    have hs : s = ⟨#[]⟩ := empty_of ho.2.2
    subst hn
    subst hs
    have e : argB (c, 0, ⟨#[]⟩) = [] := by unfold argB; rw [if_neg h1, if_neg h2', if_neg h3]
    rw [e] at h2
    exact readOp_4 S b c ⟨by omega, hc.2⟩ r w h2
end Go.Proofs.Ytopgapbipmblbaa
