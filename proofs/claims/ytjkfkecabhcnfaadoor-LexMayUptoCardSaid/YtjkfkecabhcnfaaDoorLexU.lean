/-
  A helper of ours: no claim of its own. Layer 19 (lex): a text split, by the document; tokens of both sides held against each other.
-/
import Derived.Test.YtjkfkecabhcnfaaDoorLexT
set_option linter.unusedVariables false
set_option linter.unusedSimpArgs false
namespace Go.Proofs.YtjkfkecabhcnfaaDoor
open Go.RowKit
attribute [local go_sem] GW.cell GW.frozen In.eq_true In.le_true In.ne In.ne' In.ne_add In.ne_add' In.lt_add Upto.le_true Upto.le_add Upto.lt_add
theorem tTokR : ElemT Tryd.prog 27 34 (.agg #[.int .i64 0, .string ⟨#[]⟩]) 2 24 := ElemT.mk' Tryd.underlying27 (by kernel_rfl) rfl (by omega)
abbrev OwnQ (w : World) (base : Nat) (v : Value) (l : List Tk) : Prop := w.ownsRow base 34 2 v l.length (tkc l)
theorem own_snocQ {w : World} {B : Nat} {v : Value} {l : List Tk} {k : Int} {s : ByteArray} (h : w.ownsRow B 34 2 v (l.length + 1) (tkc l ++ [.int .i64 k, .string s])) : OwnQ w B v (l ++ [(k, s.data.toList)]) := by
  unfold OwnQ
  rw [List.length_append, List.length_singleton, tkc_app]
  have e : tkc [(k, s.data.toList)] = [.int .i64 k, .string s] := by simp [tkc]
  rw [e]; exact h
set_option maxHeartbeats 8000000 in
set_option maxRecDepth 100000 in
theorem refSplit_c (s : ByteArray) (hs : s.size ≤ 1099511627776) (w : World) : Calls Tryd.prog 9 #[.string s] w fun e w' => ∃ v', e = .returned (.tuple #[v', .int .i64 (splE (spl s.data.toList))]) ∧ OwnQ w' w.heap.size v' (splL (spl s.data.toList)) ∧ Ext w w' := by
  obtain ⟨R, hR⟩ : ∃ R, R = spl s.data.toList := ⟨_, rfl⟩
  rw [← hR]
  have hlo := hide (fun (t : ByteArray) (ht : t.size ≤ s.size) w => longest_c t (by omega) w)
  have hst : Hid (R = afterT [] (spl (s.data.toList.drop 0))) := by show _ = _; rw [List.drop_zero, after_start]; exact hR
  have hlit := hide (World.ownsRow_lit (base := w.heap.size) (e := 34) (size := 2) w #[] 0 (Nat.le_refl _) (by decide) rfl)
  clear hR
  go_enter Tryd.func9, Tryd.ntmps9
  go_wp2_with fail
  go_loopg [4, 5] s.size (fun gh lv iv wr => ∃ (k : Nat) (acc : List Tk), iv = .int .i64 k ∧ k + gh = s.size ∧ acc.length ≤ k ∧ Hid (R = afterT acc (spl (s.data.toList.drop k))) ∧ OwnQ wr w.heap.size lv acc ∧ Ext w wr)
  case atStart => exact ⟨0, [], rfl, by omega, Nat.le_refl _, hst, (by have h := hlit.out; exact h), (Ext.refl w).alloc _⟩
  case round =>
    obtain ⟨k, acc, rfl, hk, hal, hRk, ho, hX⟩ := hrel
    clear hst hlit
    have hzX := hX.size
    by_cases hlt : k < s.size
    · have hkI : (k : Int) < (s.size : Int) := by omega
      have hkI2 : (k : Int) ≤ (s.size : Int) := by omega
      have hd := str_drop s k hlt
      have b32 := byte_eq s[k] 32
      by_cases c32 : s[k] = 32
      · have q32 : ((s[k].toNat : Int) == 32) = true := by rw [show ((s[k].toNat : Int) == 32) = decide (s[k] = 32) from b32, decide_eq_true c32]
        have hR2 : Hid (R = afterT acc (spl (s.data.toList.drop (k + 1)))) := by
          show _ = _
          rw [hRk.out, hd, c32, spl_blank]
        clear b32 c32 hd hRk hlo
        go_wp2_with fail
        go_roundg (s.size - (k + 1))
        case measure => omega
        case rel => exact ⟨k + 1, acc, by go_num, by omega, by omega, hR2, ho, hX⟩
      · have q32 : ((s[k].toNat : Int) == 32) = false := by rw [show ((s[k].toNat : Int) == 32) = decide (s[k] = 32) from b32, decide_eq_false c32]
        obtain ⟨q, hq⟩ : ∃ q, q = s.extract k s.size := ⟨_, rfl⟩
        have hql : q.data.toList = s.data.toList.drop k := by rw [hq, Lib.extract_to_end]
        have hqs : q.size = s.size - k := by rw [← str_len q, hql, List.length_drop, str_len]
        have hlq := hide (fun w => hlo.out q (by omega) w)
        have hNle := tokN_le q.data.toList
        rw [str_len] at hNle
        have hqd : q.data.toList = s[k] :: s.data.toList.drop (k + 1) := by rw [hql, hd]
        obtain ⟨p, hp⟩ : ∃ p : ByteArray, p = ⟨(q.data.toList.take (tokN q.data.toList)).toArray⟩ := ⟨_, rfl⟩
        have hpl : p.data.toList = q.data.toList.take (tokN q.data.toList) := by rw [hp]
        have hps : p.size = tokN q.data.toList := by rw [← str_len, hpl, List.length_take, str_len]; omega
        rw [← hp] at hlq
        replace hq : s.extract k s.size = q := hq.symm
        by_cases hN0 : tokN q.data.toList = 0
        · have nE := nil_size (show p.size = 0 by omega)
          rw [if_pos hN0] at hlq
          have hRe : R = .error (if s[k] = 39 then 5 else 24) := by
            rw [hRk.out, ← hql, hqd]
            rw [hqd] at hN0
            rw [spl_none c32 hN0]; rfl
          have b39 := byte_eq s[k] 39
          by_cases c39 : s[k] = 39
          · have q39 : ((s[k].toNat : Int) == 39) = true := by rw [show ((s[k].toNat : Int) == 39) = decide (s[k] = 39) from b39, decide_eq_true c39]
            rw [if_pos c39] at hRe
            replace hRe := hide hRe
            clear b32 c32 hd hRk hlo hql hqd hp hpl hps hN0 b39 c39 hNle
            go_wp2_with (first | (go_at_call 19; (with_reducible refine seq_gw (hlq.out _) ?_); intro g))
            go_returns
            exact ⟨_, by rw [hRe.out]; rfl, by rw [hRe.out]; exact World.ownsRow_nil _ _ _ _, (hX.trans g.grown).alloc _⟩
          · have q39 : ((s[k].toNat : Int) == 39) = false := by rw [show ((s[k].toNat : Int) == 39) = decide (s[k] = 39) from b39, decide_eq_false c39]
            rw [if_neg c39] at hRe
            replace hRe := hide hRe
            clear b32 c32 hd hRk hlo hql hqd hp hpl hps hN0 b39 c39 hNle
            go_wp2_with (first | (go_at_call 19; (with_reducible refine seq_gw (hlq.out _) ?_); intro g))
            go_returns
            exact ⟨_, by rw [hRe.out]; rfl, by rw [hRe.out]; exact World.ownsRow_nil _ _ _ _, (hX.trans g.grown).alloc _⟩
        · have nE := pos_size (show 0 < p.size by omega)
          rw [if_neg hN0] at hlq
          obtain ⟨K, hK⟩ : ∃ K, K = tokK q.data.toList := ⟨_, rfl⟩
          have hR2 : Hid (R = afterT (acc ++ [(K, p.data.toList)]) (spl (s.data.toList.drop (k + p.size)))) := by
            show _ = _
            rw [hRk.out, hK, hpl, hps, ← List.drop_drop, ← hql]
            rw [hqd] at hN0 ⊢
            exact after_tok acc c32 hN0
          rw [← hK] at hlq
          have hpsk : k + p.size ≤ s.size := by omega
          have hpp : 0 < p.size := by omega
          have hpI : (p.size : Int) ≤ 1099511627776 := by omega
          clear b32 c32 hd hRk hlo hql hqd hp hpl hps hN0 hNle hK
          go_wp2_with (first | (go_at_call 19; (with_reducible refine seq_gw (hlq.out _) ?_); intro g; have hzg := GW.size g) | (at_builtin; (refine wpl_app tTokR rfl (.tmp 29) (.tmp 31) rfl rfl (own_ext ho ((g.grown.alloc _).alloc _)) rfl (src_tok Tryd.underlying27 (g.val.alloc _) K p _ _ (by simp)) (by unfold maxLen; omega) (by omega) (by simp only [World.size_alloc]; omega) ?_; intro v2 w2 ho2 hg2 _; have hO2 := ((Ob.new g.val 34 [.int .i64 K, .string p]).alloc (.cells #[.int .i64 K, .string p] 34)).grown hg2 (by intro e; have := (ho.lt _ e.symm).2; omega); have y1 := hO2.cell 1 rfl; have yl := hO2.lt)))
          go_roundg (s.size - (k + p.size))
          case measure => omega
          case rel => exact ⟨k + p.size, acc ++ [(K, p.data.toList)], by first | rfl | go_num, by omega, (by rw [List.length_append, List.length_singleton]; omega), hR2, own_snocQ ho2, ext_grown (((hX.trans g.grown).alloc _).alloc _) hg2 (fun k hk => (ho.lt k hk).1)⟩
    · have hge : (s.size : Int) ≤ (k : Int) := by omega
      have hRo : Hid (R = .ok acc) := by
        show _ = _
        rw [hRk.out, List.drop_of_length_le (by rw [str_len]; omega), after_nil]
      clear hRk hlo hlt
      go_wp2_with fail
      go_returns
      exact ⟨_, by rw [hRo.out]; rfl, by rw [hRo.out]; exact ho, hX⟩
set_option maxHeartbeats 8000000 in
set_option maxRecDepth 100000 in
theorem alike_c (l : List Tk) (v u : Value) (w : World) (hl : Tw w [] v l) (hm : Tw w [] u l) : Calls Tryd.prog 10 #[v, u] w fun e w' => e = .returned (.bool true) ∧ Ext w w' := by
  obtain ⟨A, cap, rfl, hlc, hlm, hat⟩ := tw_form hl
  obtain ⟨B, cap2, rfl, hmc, hmm, hbt⟩ := tw_form hm
  unfold maxLen at hlm hmm
  replace hat := hide hat
  replace hbt := hide hbt
  obtain ⟨n, hn⟩ : ∃ n, n = l.length := ⟨_, rfl⟩
  rw [← hn] at hlc hmc ⊢
  replace hn := hide hn
  clear hl hm
  go_enter Tryd.func10, Tryd.ntmps10
  go_wp2_with fail
  go_loopg [5] n (fun gh i wr => ∃ (k : Nat), i = .int .i64 k ∧ k + gh = n ∧ Ext w wr)
  case atStart => exact ⟨0, rfl, by omega, Ext.refl w⟩
  case round =>
    obtain ⟨k, rfl, hk, hX⟩ := hrel
    by_cases hlt : k < n
    · obtain ⟨x, hx⟩ : ∃ x, l[k]? = some x := ⟨_, List.getElem?_eq_getElem (by have := hn.out; omega)⟩
      obtain ⟨b, o, rfl, -, hb, c0, c1⟩ := hat.out k x hx
      obtain ⟨b', o', rfl, -, hb', d0, d1⟩ := hbt.out k x hx
      have k0 := cell_later' hX c0
      have k1 := cell_later' hX c1
      have j0 := cell_later' hX d0
      have j1 := cell_later' hX d1
      have hbr : b < wr.heap.size := block_lt_of_cell k0
      have hbr' : b' < wr.heap.size := block_lt_of_cell j0
      haveI : In b wr := ⟨hbr⟩
      haveI : In b' wr := ⟨hbr'⟩
      obtain ⟨xk, xs⟩ := x
      simp only at k0 k1 j0 j1
      generalize (⟨xs.toArray⟩ : ByteArray) = sx at *
      have hkI : (k : Int) < n := by omega
      clear c0 c1 d0 d1 hat hbt hx
      go_wp2_with fail
      refine wp_region_gw (by kernel_rfl) (by kernel_rfl) ?_
      repeat (go_big_quiet_step (fail))
      refine wpQuiet_nil ?_
      intro g
      go_wp2_with fail
      go_roundg (n - (k + 1))
      case measure => omega
      case rel => exact ⟨k + 1, by go_num, by omega, hX.trans g.grown⟩
    · have hge : (n : Int) ≤ k := by omega
      go_wp2_with fail
      go_returns
      exact ⟨rfl, hX⟩
end Go.Proofs.YtjkfkecabhcnfaaDoor
