/-
  A helper of ours: no claim of its own. Layer 19 (lex): the longest token, and a text split, by the document.
-/
import Derived.Test.YtjkfkecabhcnfaaDoorLexR
set_option linter.unusedVariables false
set_option linter.unusedSimpArgs false
namespace Go.Proofs.YtjkfkecabhcnfaaDoor
open Go.RowKit
attribute [local go_sem] GW.cell GW.frozen In.eq_true In.le_true In.ne In.ne' In.ne_add In.ne_add' In.lt_add Upto.le_true Upto.le_add Upto.lt_add
theorem kindOf_four (c : UInt8) : kindOf c = 0 ∨ kindOf c = 1 ∨ kindOf c = 2 ∨ kindOf c = 3 ∨ kindOf c = 4 := by
  unfold kindOf
  split
  · simp
  split
  · simp
  split
  · simp
  split <;> simp
theorem tokK_four (l : List UInt8) : tokK l = 0 ∨ tokK l = 1 ∨ tokK l = 2 ∨ tokK l = 3 ∨ tokK l = 4 := by
  unfold tokK
  split
  · simp
  · exact kindOf_four _
theorem tok_hit {l : List UInt8} {j n : Nat} (hn : n ≠ 0) (hle : n ≤ l.length) (ht : tokN l ≤ n) (h : mayT ((j : Int), l.take n) = true) : n = tokN l ∧ (j : Int) = tokK l := by
  obtain ⟨-, h2⟩ := mayT_iff.1 h
  simp only at h2
  rw [List.length_take, Nat.min_eq_left hle] at h2
  obtain ⟨h3, h4⟩ := lenK_max j l n hle hn h2
  have h5 := lenK_tok j l
  by_cases e : (j : Int) = tokK l
  · rw [if_pos e] at h5; exact ⟨by omega, e⟩
  · rw [if_neg e] at h5; exact absurd h5 h4
theorem tok_miss {l : List UInt8} {n : Nat} (hn : n ≠ 0) (hle : n ≤ l.length) (ht : tokN l ≤ n) (h : ∀ i : Nat, 1 ≤ i → i < 5 → mayT ((i : Int), l.take n) = false) : tokN l ≤ n - 1 := by
  rcases Nat.lt_or_ge (tokN l) n with h1 | h1
  · omega
  · exfalso
    have e : n = tokN l := by omega
    have hm : mayT (tokK l, l.take n) = true := by
      refine mayT_iff.2 ⟨?_, ?_⟩
      · intro e2
        have := congrArg List.length e2
        simp only [List.length_take, List.length_nil] at this
        omega
      · show lenK (tokK l) (l.take n) = (l.take n).length
        rw [List.length_take, Nat.min_eq_left hle, e]
        exact lenK_back (tokK l) l
    have key : ∀ i : Nat, 1 ≤ i → i < 5 → tokK l = (i : Int) → False := by
      intro i h1 h2 h3
      have := h i h1 h2
      rw [← h3, hm] at this; cases this
    rcases tokK_four l with h0 | h0 | h0 | h0 | h0
    · have : tokN l = 0 := by unfold tokN; rw [h0]; exact lenK_zero l
      omega
    · exact key 1 (by omega) (by omega) h0
    · exact key 2 (by omega) (by omega) h0
    · exact key 3 (by omega) (by omega) h0
    · exact key 4 (by omega) (by omega) h0
set_option maxHeartbeats 8000000 in
set_option maxRecDepth 100000 in
theorem longest_c (s : ByteArray) (hs : s.size ≤ 9223372036854775806) (w : World) : Calls Tryd.prog 19 #[.string s] w fun e w' => e = .returned (.agg #[.int .i64 (if tokN s.data.toList = 0 then 0 else tokK s.data.toList), .string ⟨(s.data.toList.take (tokN s.data.toList)).toArray⟩]) ∧ Ext w w' := by
  obtain ⟨Rk, hRk⟩ : ∃ Rk, Rk = (if tokN s.data.toList = 0 then 0 else tokK s.data.toList) := ⟨_, rfl⟩
  obtain ⟨Rs, hRs⟩ : ∃ Rs : ByteArray, Rs = ⟨(s.data.toList.take (tokN s.data.toList)).toArray⟩ := ⟨_, rfl⟩
  rw [← hRk, ← hRs]
  replace hRk := hide hRk
  replace hRs := hide hRs
  have hz := hide (Ob.new w 34 [.int .i64 0, .string ⟨#[]⟩])
  have hmay := hide (fun (k : Int) (p : ByteArray) (hp : p.size ≤ s.size) w => refMayT_c k p (by omega) w)
  have hNle := tokN_le s.data.toList
  rw [str_len] at hNle
  have hsI : (s.size : Int) ≤ 9223372036854775806 := by omega
  go_enter Tryd.func19, Tryd.ntmps19
  go_wp2_with fail
  go_loopg [3] s.size (fun gh nv wr => ∃ n : Nat, nv = .int .i64 n ∧ n = gh ∧ n ≤ s.size ∧ tokN s.data.toList ≤ n ∧ Ext (w.alloc (.cells #[.int .i64 0, .string ⟨#[]⟩] 34)) wr)
  case atStart => exact ⟨s.size, rfl, rfl, Nat.le_refl _, hNle, Ext.refl _⟩
  case round =>
    obtain ⟨n, rfl, hng, hgl, hN, hX⟩ := hrel
    subst hng
    have hO := hide (hz.out.ext hX)
    have z0 := hO.out.cell 0 rfl
    have z1 := hO.out.cell 1 rfl
    have hlt0 := hO.out.lt
    have zf := fun i => hO.out.free i
    haveI : In w.heap.size wr := ⟨hlt0⟩
    have hXw := hide (((Ext.refl w).alloc (.cells #[.int .i64 0, .string ⟨#[]⟩] 34)).trans hX)
    by_cases h0 : n = 0
    · subst h0
      have hN0 : tokN s.data.toList = 0 := by omega
      have hv := hide (show Rk = 0 ∧ Rs = ⟨#[]⟩ by rw [hRk.out, hRs.out, hN0]; simp)
      clear hN hN0 hNle
      go_wp2_with fail
      have k := ((hO.out.set 0 (.int .i64 0)).set 1 (.string ⟨#[]⟩))
      have k0 := k.cell 0 rfl
      have k1 := k.cell 1 rfl
      refine bodyPost_ret (by simp [results, Tryd.results19, go_sem, k0, k1]; try rfl) rfl ?_
      exact ⟨by rw [hv.out.1, hv.out.2], (hXw.out.setCell (p := ⟨w.heap.size, 0, none⟩) (Nat.le_refl _) _).setCell (p := ⟨w.heap.size, 1, none⟩) (Nat.le_refl _) _⟩
    · have hposI : (0 : Int) < (n : Int) := by omega
      have dk : decide (0 < n) = true := decide_eq_true (by omega)
      have hgI : (n : Int) ≤ (s.size : Int) := by omega
      go_wp2_with fail
      obtain ⟨wo, hwo⟩ : ∃ x, x = wr := ⟨_, rfl⟩
      subst hwo
      obtain ⟨p, hp⟩ : ∃ p, p = s.extract 0 n := ⟨_, rfl⟩
      have hpl : p.data.toList = s.data.toList.take n := by rw [hp, str_upto]
      have hps : p.size ≤ s.size := by rw [← str_len p, hpl, List.length_take, str_len]; omega
      have hmp := hide (fun (j : Nat) w => hmay.out (j : Int) p hps w)
      have hhit := hide (fun (j : Nat) (h : mayT ((j : Int), p.data.toList) = true) => tok_hit (l := s.data.toList) (j := j) h0 (by rw [str_len]; exact hgl) hN (by rw [← hpl]; exact h))
      have hmiss := hide (fun (h : ∀ i : Nat, 1 ≤ i → i < 5 → mayT ((i : Int), p.data.toList) = false) => tok_miss (l := s.data.toList) h0 (by rw [str_len]; exact hgl) hN (by rw [← hpl]; exact h))
      have hplh := hide hpl
      replace hp : s.extract 0 n = p := hp.symm
      clear hpl hps hmay hN
      go_loopg [4] 4 (fun gh kv wr => ∃ (j : Nat), kv = .int .i64 j ∧ 1 ≤ j ∧ j + gh = 5 ∧ Hid (∀ i : Nat, 1 ≤ i → i < j → mayT ((i : Int), p.data.toList) = false) ∧ Ext wo wr)
      case atStart => exact ⟨1, rfl, Nat.le_refl _, rfl, (by intro i h1 h2; omega), Ext.refl wo⟩
      case round =>
        obtain ⟨j, rfl, hj1, hj, hall, hX2⟩ := hrel
        by_cases hlt : j < 5
        · have hltI : (j : Int) ≤ 4 := by omega
          have hmj := hide (fun w => hmp.out j w)
          cases hm : mayT ((j : Int), p.data.toList) with
          | true =>
            obtain ⟨e1, e2⟩ := hhit.out j hm
            rw [hm] at hmj
            have hv := hide (show Rk = (j : Int) ∧ Rs = p by
              rw [hRk.out, hRs.out, if_neg (by omega), ← e1, ← e2]; exact ⟨rfl, by rw [← hplh.out]; try exact (str_eq p).symm⟩)
            have hO2 := hide (hO.out.ext hX2)
            have y0 := hO2.out.cell 0 rfl
            have y1 := hO2.out.cell 1 rfl
            have yl := hO2.out.lt
            have yf := fun i => hO2.out.free i
            haveI : In w.heap.size wr := ⟨yl⟩
            clear e1 e2 hm hall hhit hmiss hplh hNle
            go_wp2_with (first | (go_at_call 12; (with_reducible refine seq_gw (hmj.out _) ?_); intro g))
            have k := (((hO2.out.ext g.grown).set 0 (.int .i64 j)).set 1 (.string p))
            have k0 := k.cell 0 rfl
            have k1 := k.cell 1 rfl
            refine bodyPost_ret (by simp [results, Tryd.results19, go_sem, k0, k1]; try rfl) rfl ?_
            exact ⟨by rw [hv.out.1, hv.out.2], (((hXw.out.trans hX2).trans g.grown).setCell (p := ⟨w.heap.size, 0, none⟩) (Nat.le_refl _) _).setCell (p := ⟨w.heap.size, 1, none⟩) (Nat.le_refl _) _⟩
          | false =>
            rw [hm] at hmj
            have hn : Hid (∀ i : Nat, 1 ≤ i → i < j + 1 → mayT ((i : Int), p.data.toList) = false) := by
              intro i h1 h2
              rcases (by omega : i < j ∨ i = j) with hh | rfl
              · exact hall.out i h1 hh
              · exact hm
            clear hm hall hhit hmiss hplh hNle
            go_wp2_with (first | (go_at_call 12; (with_reducible refine seq_gw (hmj.out _) ?_); intro g))
            go_roundg (4 - j)
            case measure => omega
            case rel => exact ⟨j + 1, by go_num, by omega, by omega, hn, hX2.trans g.grown⟩
        · have hj5 : j = 5 := by omega
          subst hj5
          have hN2 := hmiss.out hall.out
          clear hall hhit hmiss hplh hNle
          go_wp2_with fail
          go_roundg (n - 1)
          case measure => omega
          case rel => exact ⟨n - 1, by first | rfl | (congr 1; omega) | go_num, rfl, by omega, hN2, hX.trans hX2⟩
end Go.Proofs.YtjkfkecabhcnfaaDoor
