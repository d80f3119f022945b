/-
  A helper of ours: no claim of its own. Layer 19 (lex): a text split, by the code.
-/
import Derived.Test.YtjkfkecabhcnfaaDoorLexC
set_option linter.unusedVariables false
set_option linter.unusedSimpArgs false
namespace Go.Proofs.YtjkfkecabhcnfaaDoor
open Go.RowKit
attribute [local go_sem] GW.cell GW.frozen In.eq_true In.le_true In.ne In.ne' In.ne_add In.ne_add' In.lt_add Upto.le_true Upto.le_add Upto.lt_add
/-- Tokens as cells. -/
def tkc (l : List Tk) : List Value := l.flatMap fun t => [.int .i64 t.1, .string ⟨t.2.toArray⟩]
theorem tkc_app (l m : List Tk) : tkc (l ++ m) = tkc l ++ tkc m := by simp [tkc]
abbrev OwnK (w : World) (base : Nat) (v : Value) (l : List Tk) : Prop := w.ownsRow base 33 2 v l.length (tkc l)
theorem tTok : ElemT Tryd.prog 23 33 (.agg #[.int .i64 0, .string ⟨#[]⟩]) 2 24 := ElemT.mk' Tryd.underlying23 (by kernel_rfl) rfl (by omega)
theorem src_tok {P : Program} {tx e' : TypeId} (hk : P.underlying tx = some (.slice e')) (w : World) (k : Int) (s : ByteArray) (E : TypeId) (B : Nat) (hB : B = w.heap.size) : Src P 2 tx (.slice (some ⟨B, 0, none⟩) 1 1) 1 [.int .i64 k, .string s] (w.alloc (.cells #[.int .i64 k, .string s] E)) :=
  Src.ofSlice _ hk _ 1 1 [.int .i64 k, .string s] (by simp) (fun j u hj => by
    subst hB
    have hj' : j < 2 := by
      have := (List.getElem?_eq_some_iff.1 hj).1
      simpa using this
    have hh := (Ob.new w E [.int .i64 k, .string s]).cell j hj
    rw [show (⟨w.heap.size, 0, none⟩ : Addr).add j = ⟨w.heap.size, j, none⟩ by rw [add_plain]; simp]
    exact hh) (by
    intro u hu
    simp only [List.mem_cons, List.not_mem_nil, or_false] at hu
    rcases hu with rfl | rfl <;> rfl)
theorem own_snocK {w : World} {B : Nat} {v : Value} {l : List Tk} {k : Int} {s : ByteArray} (h : w.ownsRow B 33 2 v (l.length + 1) (tkc l ++ [.int .i64 k, .string s])) : OwnK w B v (l ++ [(k, s.data.toList)]) := by
  unfold OwnK
  rw [List.length_append, List.length_singleton, tkc_app]
  have e : tkc [(k, s.data.toList)] = [.int .i64 k, .string s] := by simp [tkc]
  rw [e]; exact h
def splL (x : Except Int (List Tk)) : List Tk := match x with | .ok t => t | .error _ => []
def splE (x : Except Int (List Tk)) : Int := match x with | .ok _ => 0 | .error z => z
set_option maxHeartbeats 8000000 in
set_option maxRecDepth 100000 in
theorem split_c (s : ByteArray) (hs : s.size ≤ 1099511627776) (w : World) : Calls Tryd.prog 8 #[.string s] w fun e w' => ∃ v', e = .returned (.tuple #[v', .int .i64 (splE (spl s.data.toList))]) ∧ OwnK w' w.heap.size v' (splL (spl s.data.toList)) ∧ Ext w w' := by
  obtain ⟨R, hR⟩ : ∃ R, R = spl s.data.toList := ⟨_, rfl⟩
  rw [← hR]
  have hsk := hide (fun w => skip_c s (by omega) w)
  obtain ⟨r0, hr0⟩ : ∃ r0 : ByteArray, r0 = ⟨(skipB s.data.toList).toArray⟩ := ⟨_, rfl⟩
  have hr0l : r0.data.toList = skipB s.data.toList := by rw [hr0]
  have hr0s : r0.size ≤ s.size := by rw [← str_len r0, hr0l, ← str_len s]; exact skipB_le _
  rw [← hr0] at hsk
  have hst : Hid (∃ m, r0.data.toList = skipB m ∧ R = afterT [] (spl r0.data.toList)) := ⟨_, hr0l, by rw [hr0l, spl_skip, after_start]; exact hR⟩
  clear hr0 hr0l hR
  go_enter Tryd.func8, Tryd.ntmps8
  go_wp2
  go_step3
  go_wp2
  go_step3
  go_wp2_with (first | (go_at_call 17; (with_reducible refine seq_gw (hsk.out _) ?_); intro g0))
  have hX0 := hide g0.grown
  go_loopg [4, 5] r0.size (fun gh lv rv wr => ∃ (r : ByteArray) (acc : List Tk), rv = .string r ∧ r.size = gh ∧ acc.length + r.size ≤ s.size ∧ Hid (∃ m, r.data.toList = skipB m ∧ R = afterT acc (spl r.data.toList)) ∧ OwnK wr w.heap.size lv acc ∧ Ext w wr)
  case atStart => exact ⟨r0, [], rfl, rfl, by simpa using hr0s, hst, World.ownsRow_nil _ _ _ _, hX0.out⟩
  case round =>
    obtain ⟨r, acc, rfl, hg, hle, hRr, ho, hX⟩ := hrel
    clear hst hr0s hsk
    subst hg
    by_cases h0 : r.size = 0
    · have nE := nil_size h0
      have hRo : Hid (R = .ok acc) := by
        obtain ⟨m, -, e⟩ := hRr.out
        show _ = _
        rw [e, nil_bytes h0, after_nil]
      clear h0 hRr
      go_wp2_with fail
      try rw [Exit.noGoto_ret]
      refine bodyPost_ret (by simp [results, Tryd.results8, go_sem]; try rfl) rfl ?_
      exact ⟨_, by rw [hRo.out]; rfl, by rw [hRo.out]; exact ho, hX⟩
    · have hpos : 0 < r.size := by omega
      have nE := pos_size hpos
      have hd := str_drop r 0 hpos
      rw [List.drop_zero] at hd
      have hc32 : r[0] ≠ 32 := by
        obtain ⟨m, e, -⟩ := hRr.out
        rw [hd] at e
        exact skipB_head e.symm
      have hRt := hide (show tokN r.data.toList ≠ 0 → R = afterT (acc ++ [(tokK r.data.toList, r.data.toList.take (tokN r.data.toList))]) (spl (r.data.toList.drop (tokN r.data.toList))) by
        intro hn
        obtain ⟨m, -, e⟩ := hRr.out
        rw [e]
        rw [hd] at hn ⊢
        exact after_tok acc hc32 hn)
      have hRe := hide (show tokN r.data.toList = 0 → R = .error (if r[0] = 39 then 5 else 24) by
        intro hn
        obtain ⟨m, -, e⟩ := hRr.out
        rw [e]
        rw [hd] at hn ⊢
        rw [spl_none hc32 hn]; rfl)
      have hl := hide (fun (k : Int) w => length_c k r (by omega) hpos w)
      have hzX := hX.size
      clear hRr hc32 hd h0
      go_wp2_with fail
      obtain ⟨wo, hwo⟩ : ∃ x, x = wr := ⟨_, rfl⟩
      subst hwo
      go_loopg [4, 5, 6] 4 (fun gh lv rv kv wr => ∃ (j : Nat), lv = u4 ∧ rv = .string r ∧ kv = .int .i64 j ∧ 1 ≤ j ∧ j + gh = 5 ∧ Hid (∀ i : Nat, 1 ≤ i → i < j → lenK i r.data.toList = 0) ∧ Ext wo wr)
      case atStart => exact ⟨1, rfl, rfl, rfl, Nat.le_refl _, rfl, (by intro i h1 h2; omega), Ext.refl wo⟩
      case round =>
        obtain ⟨j, rfl, rfl, rfl, hj1, hj, hz, hX2⟩ := hrel
        by_cases hlt : j < 5
        · have hlj := hide (fun w => hl.out j w)
          have htk := lenK_tok j r.data.toList
          have hNle := lenK_le j r.data.toList
          rw [str_len] at hNle
          have hltI : (j : Int) ≤ 4 := by omega
          obtain ⟨N, hN⟩ : ∃ N, N = lenK j r.data.toList := ⟨_, rfl⟩
          rw [← hN] at hlj htk hNle
          by_cases hN0 : N = 0
          · have hz2 : Hid (∀ i : Nat, 1 ≤ i → i < j + 1 → lenK i r.data.toList = 0) := by
              intro i h1 h2
              rcases (by omega : i < j ∨ i = j) with h | h
              · exact hz.out i h1 h
              · rw [h, ← hN]; exact hN0
            subst hN0
            clear hN htk hz hRt hRe
            go_wp2_with (first | (go_at_call 18; (with_reducible refine seq_gw (hlj.out _) ?_); intro g))
            go_roundg (4 - j)
            case measure => omega
            case rel => exact ⟨j + 1, rfl, rfl, by go_num, by omega, by omega, hz2, hX2.trans g.grown⟩
          · have hjk : (j : Int) = tokK r.data.toList := by
              by_cases e : (j : Int) = tokK r.data.toList
              · exact e
              · rw [if_neg e] at htk; exact absurd htk hN0
            rw [if_pos hjk] at htk
            have hR3 := hRt.out (by rw [← htk]; exact hN0)
            rw [← htk, ← hjk] at hR3
            obtain ⟨p, hp⟩ : ∃ p, p = r.extract 0 N := ⟨_, rfl⟩
            obtain ⟨q, hq⟩ : ∃ q, q = r.extract N r.size := ⟨_, rfl⟩
            have hpl : p.data.toList = r.data.toList.take N := by rw [hp, str_upto]
            have hql : q.data.toList = r.data.toList.drop N := by rw [hq, Lib.extract_to_end]
            rw [← hpl, ← hql] at hR3
            have hqs : q.size = r.size - N := by rw [← str_len, hql, List.length_drop, str_len]
            have hsk := hide (fun w => skip_c q (by omega) w)
            obtain ⟨r2, hr2⟩ : ∃ r2 : ByteArray, r2 = ⟨(skipB q.data.toList).toArray⟩ := ⟨_, rfl⟩
            have hr2l : r2.data.toList = skipB q.data.toList := by rw [hr2]
            have hr2s : r2.size ≤ q.size := by rw [← str_len r2, hr2l, ← str_len q]; exact skipB_le _
            rw [← hr2] at hsk
            have hst : Hid (∃ m, r2.data.toList = skipB m ∧ R = afterT (acc ++ [((j : Int), p.data.toList)]) (spl r2.data.toList)) := ⟨_, hr2l, by rw [hr2l, spl_skip]; exact hR3⟩
            replace hp : r.extract 0 N = p := hp.symm
            replace hq : r.extract N r.size = q := hq.symm
            have hNI : (0 : Int) < (N : Int) := by omega
            have hNI2 : (N : Int) ≤ (r.size : Int) := by omega
            clear hr2 hr2l hR3 hpl hql htk hjk hz hRt hRe hN hN0
            go_wp2_with (first | (go_at_call 18; (with_reducible refine seq_gw (hlj.out _) ?_); intro g; have hzg := GW.size g; have hz2 := hX2.size) | (go_at_call 17; (with_reducible refine seq_gw (hsk.out _) ?_); intro g2) | (at_builtin; (refine wpl_app tTok rfl (.tmp 23) (.tmp 29) rfl rfl (own_ext ho ((hX2.trans g.grown).alloc _)) rfl (src_tok Tryd.underlying23 g.val j p _ _ rfl) (by unfold maxLen; omega) (by omega) (by simp only [World.size_alloc]; omega) ?_; intro v2 w2 ho2 hg2 _)))
            go_roundg r2.size
            case measure => omega
            case rel => exact ⟨r2, acc ++ [((j : Int), p.data.toList)], rfl, rfl, (by rw [List.length_append, List.length_singleton]; omega), hst, own_ext (own_snocK ho2) g2.grown, (ext_grown (((hX.trans hX2).trans g.grown).alloc _) hg2 (fun k hk => (ho.lt k hk).1)).trans g2.grown⟩
        · have hj5 : j = 5 := by omega
          subst hj5
          have hz4 : tokN r.data.toList = 0 := by
            unfold tokN
            have h1 := hz.out 1 (by omega) (by omega)
            have h2 := hz.out 2 (by omega) (by omega)
            have h3 := hz.out 3 (by omega) (by omega)
            have h4 := hz.out 4 (by omega) (by omega)
            unfold tokK
            split
            · exact lenK_zero _
            · next c t e =>
              rw [e] at h1 h2 h3 h4
              rw [e]
              unfold kindOf
              split
              · exact h1
              split
              · exact h2
              split
              · exact h3
              split
              · exact h4
              · exact lenK_zero _
          have hRe2 := hRe.out hz4
          have hb := byte_eq r[0] 39
          by_cases hc : r[0] = 39
          · have b1 : ((r[0].toNat : Int) == 39) = true := by rw [hc]; rfl
            rw [if_pos hc] at hRe2
            replace hRe2 := hide hRe2
            have hposI : (0 : Int) < r.size := by omega
            clear hz hz4 hb hc hRt hRe hl
            go_wp2_with fail
            try rw [Exit.noGoto_ret]
            refine bodyPost_ret (by simp [results, Tryd.results8, go_sem]; try rfl) rfl ?_
            exact ⟨_, by rw [hRe2.out]; rfl, by rw [hRe2.out]; exact World.ownsRow_nil _ _ _ _, hX.trans hX2⟩
          · have b1 : ((r[0].toNat : Int) == 39) = false := by rw [show (39 : Int) = ((39 : UInt8).toNat : Int) from rfl, hb]; exact decide_eq_false hc
            rw [if_neg hc] at hRe2
            replace hRe2 := hide hRe2
            have hposI : (0 : Int) < r.size := by omega
            clear hz hz4 hb hc hRt hRe hl
            go_wp2_with fail
            try rw [Exit.noGoto_ret]
            refine bodyPost_ret (by simp [results, Tryd.results8, go_sem]; try rfl) rfl ?_
            exact ⟨_, by rw [hRe2.out]; rfl, by rw [hRe2.out]; exact World.ownsRow_nil _ _ _ _, hX.trans hX2⟩
end Go.Proofs.YtjkfkecabhcnfaaDoor
