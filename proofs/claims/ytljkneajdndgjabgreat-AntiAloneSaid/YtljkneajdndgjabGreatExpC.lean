/-
  A helper of ours: no claim of its own. Layer 17 (expr): the document's Tail (by recursion) and its Form.
-/
import Derived.Test.YtljkneajdndgjabGreatExpB
set_option linter.unusedVariables false
set_option linter.unusedSimpArgs false
namespace Go.Proofs.YtljkneajdndgjabGreat
open Go.RowKit
attribute [-go_sem] sliced
attribute [local go_sem] sliced_eq
attribute [local go_sem] GW.cell GW.frozen In.eq_true In.le_true In.ne In.ne' In.ne_add In.ne_add' In.lt_add Upto.le_true Upto.le_add Upto.lt_add
/-- The first n values of a slice. -/
theorem rw_cut {w : World} {S : List Nat} {A : Option Addr} {cap : Nat} {l : List Vl} (h : Rw w S (.slice A l.length cap) l) (n : Nat) (hn : n ≤ l.length) : Rw w S (.slice (cutA A 0 cap 3) n cap) (l.take n) := by
  obtain ⟨A', cap', e, hl, hm, -⟩ := rw_form h
  obtain ⟨rfl, -, rfl⟩ : A = A' ∧ True ∧ cap = cap' := by simpa using e
  have hc := Sl.cut h 0 n cap (by omega) hn (by omega) (Nat.le_refl _)
  rw [sliced_eq, Nat.sub_zero, Nat.sub_zero, Nat.zero_mul, List.drop_zero, rc_take] at hc
  show Sl _ _ _ _ _ _
  rw [List.length_take, Nat.min_eq_left hn]
  exact hc
theorem tl_nil : tl [] = 0 := by unfold tl; exact rt_nil
theorem tl_bad {p : List Vl} {o : Vl} (h : okW o = false) : tl (p ++ [o]) = 0 := by rw [tl_snoc, rt_bad _ h]
theorem tl_leaf {p : List Vl} {o : Vl} (h : okW o = true) (h0 : tkI o.1 = 0) : tl (p ++ [o]) = 1 := by rw [tl_snoc, rt_leaf _ h h0]
theorem tl_none {p : List Vl} {o : Vl} (h : okW o = true) (h0 : tkI o.1 ≠ 0) (hm : tl p = 0) : tl (p ++ [o]) = 0 := by rw [tl_snoc, rt_none _ h h0 hm]
theorem tl_one {p : List Vl} {o : Vl} (h : okW o = true) (h0 : tkI o.1 = 1) (hm : tl p ≠ 0) : tl (p ++ [o]) = 1 + tl p := by rw [tl_snoc, rt_one _ h h0 hm]; rfl
theorem tl_take (p : List Vl) : tl (p.take (p.length - tl p)) = rt (p.reverse.drop (rt p.reverse)) := by unfold tl; rw [take_rev]
theorem tl_two0 {p : List Vl} {o : Vl} (h : okW o = true) (h0 : tkI o.1 = 2) (hm : tl p ≠ 0) (hk : tl (p.take (p.length - tl p)) = 0) : tl (p ++ [o]) = 0 := by
  rw [tl_take] at hk; rw [tl_snoc, rt_two0 _ h h0 hm hk]
theorem tl_two {p : List Vl} {o : Vl} (h : okW o = true) (h0 : tkI o.1 = 2) (hm : tl p ≠ 0) (hk : tl (p.take (p.length - tl p)) ≠ 0) : tl (p ++ [o]) = 1 + tl p + tl (p.take (p.length - tl p)) := by
  rw [tl_take] at hk ⊢; rw [tl_snoc, rt_two _ h h0 hm hk]; rfl
set_option maxHeartbeats 4000000 in
set_option maxRecDepth 100000 in
theorem refTail_c : ∀ (N : Nat) (l : List Vl), l.length ≤ N → ∀ (v : Value) (w : World), Rw w [] v l → Calls Tryz.prog 84 #[v] w fun e w' => e = .returned (.int .i64 (tl l)) ∧ Ext w w' := by
  intro N
  induction N with
  | zero =>
    intro l hN v w h
    obtain rfl : l = [] := List.eq_nil_of_length_eq_zero (by omega)
    obtain ⟨A, cap, rfl, hl, hm, -⟩ := rw_form h
    clear h
    rw [tl_nil]
    simp only [List.length_nil] at hl ⊢
    go_enter Tryz.func84, Tryz.ntmps84
    go_wp2_with fail
    go_returns
    exact ⟨rfl, Ext.refl w⟩
  | succ N ih =>
    intro l hN v w h
    rcases List.eq_nil_or_concat l with rfl | ⟨p, o, rfl⟩
    · obtain ⟨A, cap, rfl, hl, hm, -⟩ := rw_form h
      clear h ih
      rw [tl_nil]
      simp only [List.length_nil] at hl ⊢
      go_enter Tryz.func84, Tryz.ntmps84
      go_wp2_with fail
      go_returns
      exact ⟨rfl, Ext.refl w⟩
    · rw [List.concat_eq_append] at *
      have hlen : (p ++ [o]).length = p.length + 1 := by simp
      obtain ⟨A, cap, rfl, hl, hm, hat⟩ := rw_form h
      unfold maxLen at hm
      have hp0 := rw_cut h p.length (by omega)
      rw [List.take_left'  rfl] at hp0
      have hp0' := hide hp0
      have hk1 := tl_len p
      have hq0 := rw_cut h (p.length - tl p) (by omega)
      rw [List.take_append_of_le_length (by omega)] at hq0
      replace hq0 := hide hq0
      obtain ⟨b, off, rfl, -, hb, c0, c1, c2⟩ := hat p.length o (by simp)
      clear hat h hp0
      rw [hlen] at hl hN ⊢
      have ih1 := hide (fun v w h => ih p (by omega) v w h)
      have ih2 := hide (fun v w h => ih (p.take (p.length - tl p)) (by rw [List.length_take]; omega) v w h)
      clear ih
      have hwd := hide (fun w => refWord_c o.1 o.2.1 o.2.2 w)
      have htk := hide (fun w => refTakes_c o.1 w)
      have f0 := hide (@tl_bad p o)
      have f1 := hide (@tl_leaf p o)
      have f2 := hide (@tl_none p o)
      have f3 := hide (@tl_one p o)
      have f4 := hide (@tl_two0 p o)
      have f5 := hide (@tl_two p o)
      have hcs := @okW_tk o
      obtain ⟨oc, on, os⟩ := o
      simp only at hwd htk f1 f2 f3 f4 f5 hcs
      generalize tl (p ++ [(oc, on, os)]) = R at *
      generalize okW (oc, on, os) = ok at *
      generalize tkI oc = t at *
      have hk2 := tl_len (p.take (p.length - tl p))
      rw [List.length_take] at hk2
      generalize tl (p.take (p.length - tl p)) = m2 at *
      generalize hm1 : tl p = m1 at *
      have hX0 := hide (Ext.refl w)
      clear hlen
      generalize p.length = m at *
      replace hm1 := hide hm1
      have hwm : wrap64 (m : Int) = m := by unfold wrap64; omega
      have hm0 : (m : Int) < m + 1 := by omega
      have hm00 : (0 : Int) ≤ m := by omega
      have he0 : ((m : Int) + 1 == 0) = false := by rw [beq_eq_false_iff_ne]; omega
      cases ok
      · have hF := hide (f0.out rfl)
        go_enter Tryz.func84, Tryz.ntmps84
        go_wp2_with (first | (go_at_call 128; (with_reducible refine seq_gw (hwd.out _) ?_); intro g))
        go_returns
        exact ⟨by rw [hF.out]; rfl, g.grown⟩
      · have hts := hcs rfl
        clear hcs f0
        by_cases h0 : t = 0
        · have hF := hide (f1.out rfl h0)
          subst h0
          clear f1 f2 f3 f4 f5 ih1 ih2 hp0' hq0 hts
          go_enter Tryz.func84, Tryz.ntmps84
          go_wp2_with (first | (go_at_call 128; (with_reducible refine seq_gw (hwd.out _) ?_); intro g))
          go_loopg [3, 4, 5] 0 (fun gh n i u wr => n = .int .i64 1 ∧ i = .int .i64 0 ∧ Ext w wr)
          case atStart => exact ⟨rfl, rfl, g.grown⟩
          case round =>
            obtain ⟨rfl, rfl, hX⟩ := hrel
            have k0 := cell_later hX c0
            have k1 := cell_later hX c1
            have k2 := cell_later hX c2
            clear g c0 c1 c2
            go_wp2_with (first | (go_at_call 129; (with_reducible refine seq_gw (htk.out _) ?_); intro g))
            go_returns
            exact ⟨by rw [hF.out]; rfl, hX.trans g.grown⟩
        · by_cases z1 : m1 = 0
          · have hF := hide (f2.out rfl h0 z1)
            subst z1
            have ht1 : (0 : Int) < t := by omega
            have hcapm : (m : Int) ≤ (cap : Int) := by omega
            clear f1 f2 f3 f4 f5 ih2 hq0 hts h0
            go_enter Tryz.func84, Tryz.ntmps84
            go_wp2_with (first | (go_at_call 128; (with_reducible refine seq_gw (hwd.out _) ?_); intro g))
            go_loopg [3, 4, 5] 0 (fun gh n i u wr => n = .int .i64 1 ∧ i = .int .i64 0 ∧ Ext w wr)
            case atStart => exact ⟨rfl, rfl, g.grown⟩
            case round =>
              obtain ⟨rfl, rfl, hX⟩ := hrel
              have k0 := cell_later hX c0
              have k1 := cell_later hX c1
              have k2 := cell_later hX c2
              clear g c0 c1 c2
              go_wp2_with (first | (go_at_call 129; (with_reducible refine seq_gw (htk.out _) ?_); intro g) | (go_at_call 84; (with_reducible refine seq_gw' (ih1.out _ _ (Sl.ext hp0'.out (hX.trans g.grown))) ?_); intro g2))
              go_returns
              exact ⟨by rw [hF.out]; rfl, hX.trans g2.grown⟩
          · have z1I : ((m1 : Int) == 0) = false := by rw [beq_eq_false_iff_ne]; omega
            have hcapm : (m : Int) ≤ (cap : Int) := by omega
            have t0 : (0 : Int) < t := by omega
            rcases hts.resolve_left h0 with e1 | e2
            · have hF := hide (f3.out rfl e1 z1)
              subst e1
              clear f1 f2 f3 f4 f5 ih2 hq0 hts h0 t0 z1
              go_enter Tryz.func84, Tryz.ntmps84
              go_wp2_with (first | (go_at_call 128; (with_reducible refine seq_gw (hwd.out _) ?_); intro g))
              go_loopg [3, 4, 5] 1 (fun gh n i u wr => ((gh = 1 ∧ n = .int .i64 1 ∧ i = .int .i64 0) ∨ (gh = 0 ∧ n = .int .i64 (1 + (m1 : Int)) ∧ i = .int .i64 1)) ∧ Ext w wr)
              case atStart => exact ⟨.inl ⟨rfl, rfl, rfl⟩, g.grown⟩
              case round =>
                obtain ⟨⟨rfl, rfl, rfl⟩ | ⟨rfl, rfl, rfl⟩, hX⟩ := hrel
                · have k0 := cell_later hX c0
                  have k1 := cell_later hX c1
                  have k2 := cell_later hX c2
                  clear g c0 c1 c2
                  go_wp2_with (first | (go_at_call 129; (with_reducible refine seq_gw (htk.out _) ?_); intro g) | (go_at_call 84; (with_reducible refine seq_gw' (ih1.out _ _ (Sl.ext hp0'.out (hX.trans g.grown))) ?_); intro g2))
                  go_roundg 0
                  case measure => omega
                  case rel => exact ⟨.inr ⟨rfl, by go_num, by go_num⟩, hX.trans g2.grown⟩
                · have k0 := cell_later hX c0
                  have k1 := cell_later hX c1
                  have k2 := cell_later hX c2
                  clear g c0 c1 c2
                  go_wp2_with (first | (go_at_call 129; (with_reducible refine seq_gw (htk.out _) ?_); intro g))
                  go_returns
                  exact ⟨by rw [hF.out, Int.natCast_add]; rfl, hX.trans g.grown⟩
            · have hg4 := hide (f4.out rfl e2 z1)
              have hg5 := hide (f5.out rfl e2 z1)
              subst e2
              clear f1 f2 f3 f4 f5 hts h0 t0 z1
              have hq : m - m1 = m + 1 - (1 + m1) := by omega
              rw [hq] at hq0 ih2
              clear hq
              by_cases z2 : m2 = 0
              · have hF := hide (hg4.out z2)
                subst z2
                clear hg4 hg5
                go_enter Tryz.func84, Tryz.ntmps84
                go_wp2_with (first | (go_at_call 128; (with_reducible refine seq_gw (hwd.out _) ?_); intro g))
                go_loopg [3, 4, 5] 1 (fun gh n i u wr => ((gh = 1 ∧ n = .int .i64 1 ∧ i = .int .i64 0) ∨ (gh = 0 ∧ n = .int .i64 (1 + (m1 : Int)) ∧ i = .int .i64 1)) ∧ Ext w wr)
                case atStart => exact ⟨.inl ⟨rfl, rfl, rfl⟩, g.grown⟩
                case round =>
                  obtain ⟨⟨rfl, rfl, rfl⟩ | ⟨rfl, rfl, rfl⟩, hX⟩ := hrel
                  · have k0 := cell_later hX c0
                    have k1 := cell_later hX c1
                    have k2 := cell_later hX c2
                    clear g c0 c1 c2
                    go_wp2_with (first | (go_at_call 129; (with_reducible refine seq_gw (htk.out _) ?_); intro g) | (go_at_call 84; (with_reducible refine seq_gw' (ih1.out _ _ (Sl.ext hp0'.out (hX.trans g.grown))) ?_); intro g2))
                    go_roundg 0
                    case measure => omega
                    case rel => exact ⟨.inr ⟨rfl, by go_num, by go_num⟩, hX.trans g2.grown⟩
                  · have k0 := cell_later hX c0
                    have k1 := cell_later hX c1
                    have k2 := cell_later hX c2
                    clear g c0 c1 c2
                    go_wp2_with (first | (go_at_call 129; (with_reducible refine seq_gw (htk.out _) ?_); intro g) | (go_at_call 84; (with_reducible refine seq_gw' (ih2.out _ _ (Sl.ext hq0.out (hX.trans g.grown))) ?_); intro g2))
                    go_returns
                    exact ⟨by rw [hF.out]; rfl, hX.trans g2.grown⟩
              · have hF := hide (hg5.out z2)
                have z2I : ((m2 : Int) == 0) = false := by rw [beq_eq_false_iff_ne]; omega
                clear hg4 hg5 z2
                go_enter Tryz.func84, Tryz.ntmps84
                go_wp2_with (first | (go_at_call 128; (with_reducible refine seq_gw (hwd.out _) ?_); intro g))
                go_loopg [3, 4, 5] 2 (fun gh n i u wr => ((gh = 2 ∧ n = .int .i64 1 ∧ i = .int .i64 0) ∨ (gh = 1 ∧ n = .int .i64 (1 + (m1 : Int)) ∧ i = .int .i64 1) ∨ (gh = 0 ∧ n = .int .i64 (1 + (m1 : Int) + m2) ∧ i = .int .i64 2)) ∧ Ext w wr)
                case atStart => exact ⟨.inl ⟨rfl, rfl, rfl⟩, g.grown⟩
                case round =>
                  obtain ⟨⟨rfl, rfl, rfl⟩ | ⟨rfl, rfl, rfl⟩ | ⟨rfl, rfl, rfl⟩, hX⟩ := hrel
                  · have k0 := cell_later hX c0
                    have k1 := cell_later hX c1
                    have k2 := cell_later hX c2
                    clear g c0 c1 c2
                    go_wp2_with (first | (go_at_call 129; (with_reducible refine seq_gw (htk.out _) ?_); intro g) | (go_at_call 84; (with_reducible refine seq_gw' (ih1.out _ _ (Sl.ext hp0'.out (hX.trans g.grown))) ?_); intro g2))
                    go_roundg 1
                    case measure => omega
                    case rel => exact ⟨.inr (.inl ⟨rfl, by go_num, by go_num⟩), hX.trans g2.grown⟩
                  · have k0 := cell_later hX c0
                    have k1 := cell_later hX c1
                    have k2 := cell_later hX c2
                    clear g c0 c1 c2
                    go_wp2_with (first | (go_at_call 129; (with_reducible refine seq_gw (htk.out _) ?_); intro g) | (go_at_call 84; (with_reducible refine seq_gw' (ih2.out _ _ (Sl.ext hq0.out (hX.trans g.grown))) ?_); intro g2))
                    go_roundg 0
                    case measure => omega
                    case rel => exact ⟨.inr (.inr ⟨rfl, by go_num, by go_num⟩), hX.trans g2.grown⟩
                  · have k0 := cell_later hX c0
                    have k1 := cell_later hX c1
                    have k2 := cell_later hX c2
                    clear g c0 c1 c2
                    go_wp2_with (first | (go_at_call 129; (with_reducible refine seq_gw (htk.out _) ?_); intro g))
                    go_returns
                    exact ⟨by rw [hF.out, Int.natCast_add, Int.natCast_add]; rfl, hX.trans g.grown⟩
theorem formE_ref (l : List Vl) : formE l = if 64 < l.length then 6 else if l = [] ∨ tl l ≠ l.length then 18 else 0 := by
  unfold formE
  split
  · rfl
  · have := tl_form l
    by_cases h : fE 0 l = 0
    · have h2 := this.1 h
      rw [h, if_neg (fun e => e.elim h2.1 (fun e => e h2.2))]
    · rw [if_pos]
      · exact (fE_two l 0).resolve_left h
      · by_cases e : l = []
        · exact .inl e
        · exact .inr fun e2 => h (this.2 ⟨e, e2⟩)
set_option maxHeartbeats 2000000 in
set_option maxRecDepth 100000 in
theorem refForm_c (l : List Vl) (v : Value) (w : World) (h : Rw w [] v l) : Calls Tryz.prog 40 #[v] w fun e w' => e = .returned (.int .i64 (formE l)) ∧ Ext w w' := by
  have ht := hide (refTail_c l.length l (Nat.le_refl _) v w h)
  obtain ⟨A, cap, rfl, hl, hm, -⟩ := rw_form h
  unfold maxLen at hm
  clear h
  rw [formE_ref]
  by_cases h64 : 64 < l.length
  · rw [if_pos h64]
    have hI : (64 : Int) < (l.length : Int) := by omega
    clear h64 ht
    go_enter Tryz.func40, Tryz.ntmps40
    go_wp2_with fail
    go_returns
    exact ⟨rfl, Ext.refl w⟩
  rw [if_neg h64]
  have hI : ¬ (64 : Int) < (l.length : Int) := by omega
  by_cases h0 : l = []
  · subst h0
    rw [if_pos (.inl rfl)]
    clear hI h64 ht
    simp only [List.length_nil] at hl ⊢
    go_enter Tryz.func40, Tryz.ntmps40
    go_wp2_with fail
    go_returns
    exact ⟨rfl, Ext.refl w⟩
  have hp := List.length_pos_iff.2 h0
  have e0 : ((l.length : Int) == 0) = false := by rw [beq_eq_false_iff_ne]; omega
  by_cases h1 : tl l = l.length
  · rw [if_neg (fun e => e.elim h0 (fun e => e h1))]
    rw [h1] at ht
    clear h0 h1 h64
    go_enter Tryz.func40, Tryz.ntmps40
    go_wp2_with (first | (go_at_call 84; (with_reducible refine seq_gw ht.out ?_); intro g))
    go_returns
    exact ⟨rfl, g.grown⟩
  · rw [if_pos (.inr h1)]
    have e1 : (((tl l : Nat) : Int) != (l.length : Int)) = true := by rw [bne_iff_ne]; omega
    generalize tl l = z at *
    clear h0 h1 h64
    go_enter Tryz.func40, Tryz.ntmps40
    go_wp2_with (first | (go_at_call 84; (with_reducible refine seq_gw ht.out ?_); intro g))
    go_returns
    exact ⟨rfl, g.grown⟩
end Go.Proofs.YtljkneajdndgjabGreat
