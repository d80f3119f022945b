/-
  A helper of ours: no claim of its own. Layer 11 (pack): what of pieces is ahead of a tick, and from it on, by the code.
-/
import Derived.Test.YtgniebjigphcgaaGreatPakW
set_option linter.unusedVariables false
set_option linter.unusedSimpArgs false
namespace Go.Proofs.YtgniebjigphcgaaGreat
open Go.RowKit
attribute [local go_sem] GW.cell GW.frozen In.eq_true In.le_true In.ne In.ne' In.ne_add In.ne_add' In.lt_add Upto.le_true Upto.le_add Upto.lt_add
set_option maxHeartbeats 2000000 in
theorem piece_c (q : List Vl) (f t : Int) (v : Value) (w : World) (h : Rw w [] v q) (hz : q.length * 32 ≤ 140737488351232) : Calls Tryz.prog 64 #[v, .int .i64 f, .int .i64 t] w fun e w' => ∃ A cp, e = .returned (em (.slice A q.length cp) (f, t)) ∧ OwnR w' w.heap.size (.slice A q.length cp) q ∧ Ext w w' := by
  have hc := hide (fun w' (hX : Ext w w') => rowCopy_c q v w' (Sl.ext h hX) hz)
  have hX0 := hide ((Ext.refl w).alloc (.cells #[.slice none 0 0, .int .i64 0, .int .i64 0] 48))
  have O0 := hide (Ob.new w 48 [.slice none 0 0, .int .i64 0, .int .i64 0])
  obtain ⟨VA, vcap, rfl⟩ := rw_val h
  clear h
  go_enter Tryz.func64, Tryz.ntmps64
  go_wp2_with (go_at_call 43; refine (hc.out _ hX0.out).mono ?_; rintro ee w1 ⟨v1, rfl, ho1, hx1⟩; have O1 := O0.out.ext hx1; have c0 := O1.cell 0 rfl; have c1 := O1.cell 1 rfl; have c2 := O1.cell 2 rfl; have z0 := O1.free 0; have z1 := O1.free 1; have z2 := O1.free 2; have hlt1 := O1.lt; haveI : In w.heap.size w1 := ⟨hlt1⟩; obtain ⟨A1, cp1, rfl⟩ := own_form ho1)
  refine bodyPost_ret (by simp [results, Tryz.results64, go_sem, c0, c1, c2]; try rfl) rfl ?_
  have hF := (((Fr.refl [w.heap.size] w1).setCell ⟨w.heap.size, 0, none⟩ (.slice A1 q.length cp1) (.inl (by simp))).setCell ⟨w.heap.size, 1, none⟩ (.int .i64 f) (.inl (by simp))).setCell ⟨w.heap.size, 2, none⟩ (.int .i64 t) (.inl (by simp))
  exact ⟨_, _, rfl, own_base (own_fr ho1 hF (by intro x hx; simp at hx; subst hx; simp)) (by simp), ext_fr (hX0.out.trans hx1) hF (by intro x hx; simp at hx; omega)⟩
end Go.Proofs.YtgniebjigphcgaaGreat
set_option linter.unusedVariables false
set_option linter.unusedSimpArgs false
namespace Go.Proofs.YtgniebjigphcgaaGreat
open Go.RowKit
attribute [local go_sem] GW.cell GW.frozen In.eq_true In.le_true In.ne In.ne' In.ne_add In.ne_add' In.lt_add Upto.le_true Upto.le_add Upto.lt_add
/-- What of a piece is ahead of a tick, what is from it on. -/
def pcAh (t : Int) (e : Ed) : List Ed := if e.2.1 < t then [(e.1, (e.2.1, min e.2.2 t))] else []
def pcRe (t : Int) (e : Ed) : List Ed := if t < e.2.2 then [(e.1, (max e.2.1 t, e.2.2))] else []
set_option maxHeartbeats 8000000 in
set_option maxRecDepth 100000 in
theorem packAhead_c (L : List Ve) (t : Int) (hL : L.length * 40 ≤ 140737488351232) (hr : ∀ p ∈ L, p.2.1.length * 32 ≤ 140737488351232) (v : Value) (w : World) (h : Ew w [] v L) : Calls Tryz.prog 28 #[v, .int .i64 t] w fun e w' => ∃ v' M, e = .returned v' ∧ eds M = (eds L).flatMap (pcAh t) ∧ OwnPr w' w.heap.size v' M ∧ Ext w w' := by
  obtain ⟨A, cap, rfl, hlc, hlm, hat⟩ := ew_form h
  unfold maxLen at hlm
  have hv := hide h
  replace hat := hide hat
  replace hr := hide hr
  clear h
  go_enter Tryz.func28, Tryz.ntmps28
  go_wp2_with fail
  go_loopg [5, 10] L.length (fun gh vv i wr => ∃ (k : Nat) (N : List Ve), i = .int .i64 k ∧ k + gh = L.length ∧ OwnPr wr w.heap.size vv N ∧ N.length ≤ k ∧ Hid (eds N = (eds (L.take k)).flatMap (pcAh t)) ∧ Ext w wr)
  case atStart => exact ⟨0, [], rfl, by omega, OwnPr.nil _ _, Nat.le_refl _, (by show _ = _; simp [eds]), Ext.refl _⟩
  case round =>
    obtain ⟨k, N, rfl, hk, ho, hNk, hN, hX⟩ := hrel
    have hzX := hX.size
    by_cases hlt : k < L.length
    · obtain ⟨x, hx⟩ : ∃ x, L[k]? = some x := ⟨_, List.getElem?_eq_getElem hlt⟩
      obtain ⟨b, o, rfl, -, hb, c0, c1, c2⟩ := hat.out k x hx
      have k0 := cell_later hX c0
      have k1 := cell_later hX c1
      have k2 := cell_later hX c2
      have hbr : b < wr.heap.size := block_lt_of_cell k0
      have hrw := Sl.ext (hv.out.2 x (List.mem_of_getElem? hx)) hX
      have hrz := hr.out x (List.mem_of_getElem? hx)
      have hnx : Hid (eds N ++ pcAh t x.2 = (eds (L.take (k + 1))).flatMap (pcAh t)) := by
        show _ = _
        rw [List.take_add_one, hx, Option.toList_some, hN.out]; simp [eds]
      obtain ⟨xv, xq, xa, xn⟩ := x
      simp only at k0 k1 k2 hrw hnx hrz
      have hpc := hide (fun f' t' w' (hX' : Ext wr w') => piece_c xq f' t' xv w' (Sl.ext hrw hX') hrz)
      obtain ⟨XA, xcap, rfl⟩ := rw_val hrw
      have ho0 := hide ho
      obtain ⟨C, ccap, rfl⟩ := own_form ho.1
      clear c0 c1 c2 hat hx hrw hv ho hN hr
      by_cases hc : xa < t
      · have d1 : decide (xa < t) = true := decide_eq_true hc
        unfold pcAh at hnx
        rw [if_pos hc] at hnx
        by_cases hm : xn ≤ t
        · have hmm : min xn t = xn := by omega
          rw [hmm] at hnx
          go_wp2_with (first | (go_at_call 64; refine (hpc.out _ _ _ ((Ext.refl wr).alloc _)).mono ?_; rintro ee w5 ⟨A5, c5, rfl, ho5, hx5⟩; have hX5 := hide (((Ext.refl wr).alloc (.cells #[.slice XA xq.length xcap, .int .i64 xa, .int .i64 xn] 48)).trans hx5); have hlit := hide (litP1 (.slice A5 xq.length c5) xq (xa, xn) w5 (Sl.own (S := []) ho5 (by simp))); have hX6 := hide (hX5.out.trans ((Ext.refl w5).alloc (.cells #[.slice A5 xq.length c5, .int .i64 xa, .int .i64 xn] 48)))) | (at_builtin; (refine wpl_app tPc rfl (.tmp 19) (.tmp 31) rfl rfl (own_ext ho0.out.1 hX6.out) rfl (src_sl Tryz.underlying33 hlit.out.1 (Ew.one hlit.out) (by omega)) (by unfold maxLen; show N.length + 1 ≤ _; omega) (by show (N.length + 1) * 40 ≤ _; omega) (Nat.le_trans hzX hX6.out.size) ?_; intro v8 w8 ho8 hg8 hob8; have hX8 := hide (ext_grown (hX.trans hX6.out) hg8 (fun q hq => (ho0.out.1.lt q hq).1)))))
          go_roundg (L.length - (k + 1))
          case measure => omega
          case rel =>
            have ho9 : OwnPr w8 w.heap.size v8 (N ++ [(.slice A5 xq.length c5, xq, (xa, xn))]) := (ho0.out.ext hX6.out).app (own_appP (M := [(.slice A5 xq.length c5, xq, (xa, xn))]) (by simpa [ec, ec1] using ho8)) hg8 hob8 (fun p hp => by
              obtain rfl := List.mem_singleton.1 hp
              refine ⟨List.range wr.heap.size, Sl.ext (Sl.own ho5 (fun k hk => by have := List.mem_range.1 hk; have := hx5.size; simp only [World.size_alloc] at *; omega)) ((Ext.refl w5).alloc _), fun q hq => List.mem_range.2 ?_⟩
              rcases List.mem_append.1 hq with hq | hq
              · have := (ob_ge ho0.out.1 q hq).2; omega
              · have := List.mem_range.1 hq; omega)
            exact ⟨k + 1, _, by go_num, by omega, ho9, by rw [List.length_append, List.length_singleton]; omega, by show _ = _; rw [eds, List.map_append]; exact hnx.out, hX8.out⟩
        · have hm' : ¬ (xn ≤ t) := hm
          have hmm : min xn t = t := by omega
          rw [hmm] at hnx
          go_wp2_with (first | (go_at_call 64; refine (hpc.out _ _ _ ((Ext.refl wr).alloc _)).mono ?_; rintro ee w5 ⟨A5, c5, rfl, ho5, hx5⟩; have hX5 := hide (((Ext.refl wr).alloc (.cells #[.slice XA xq.length xcap, .int .i64 xa, .int .i64 xn] 48)).trans hx5); have hlit := hide (litP1 (.slice A5 xq.length c5) xq (xa, t) w5 (Sl.own (S := []) ho5 (by simp))); have hX6 := hide (hX5.out.trans ((Ext.refl w5).alloc (.cells #[.slice A5 xq.length c5, .int .i64 xa, .int .i64 t] 48)))) | (at_builtin; (refine wpl_app tPc rfl (.tmp 19) (.tmp 31) rfl rfl (own_ext ho0.out.1 hX6.out) rfl (src_sl Tryz.underlying33 hlit.out.1 (Ew.one hlit.out) (by omega)) (by unfold maxLen; show N.length + 1 ≤ _; omega) (by show (N.length + 1) * 40 ≤ _; omega) (Nat.le_trans hzX hX6.out.size) ?_; intro v8 w8 ho8 hg8 hob8; have hX8 := hide (ext_grown (hX.trans hX6.out) hg8 (fun q hq => (ho0.out.1.lt q hq).1)))))
          go_roundg (L.length - (k + 1))
          case measure => omega
          case rel =>
            have ho9 : OwnPr w8 w.heap.size v8 (N ++ [(.slice A5 xq.length c5, xq, (xa, t))]) := (ho0.out.ext hX6.out).app (own_appP (M := [(.slice A5 xq.length c5, xq, (xa, t))]) (by simpa [ec, ec1] using ho8)) hg8 hob8 (fun p hp => by
              obtain rfl := List.mem_singleton.1 hp
              refine ⟨List.range wr.heap.size, Sl.ext (Sl.own ho5 (fun k hk => by have := List.mem_range.1 hk; have := hx5.size; simp only [World.size_alloc] at *; omega)) ((Ext.refl w5).alloc _), fun q hq => List.mem_range.2 ?_⟩
              rcases List.mem_append.1 hq with hq | hq
              · have := (ob_ge ho0.out.1 q hq).2; omega
              · have := List.mem_range.1 hq; omega)
            exact ⟨k + 1, _, by go_num, by omega, ho9, by rw [List.length_append, List.length_singleton]; omega, by show _ = _; rw [eds, List.map_append]; exact hnx.out, hX8.out⟩
      · have d1 : decide (xa < t) = false := decide_eq_false hc
        unfold pcAh at hnx
        rw [if_neg hc, List.append_nil] at hnx
        go_wp2_with fail
        go_roundg (L.length - (k + 1))
        case measure => omega
        case rel => exact ⟨k + 1, _, by go_num, by omega, ho0.out.ext ((Ext.refl wr).alloc _), by omega, hnx, hX.alloc _⟩
    · have hk' : k = L.length := by omega
      have hge : (L.length : Int) ≤ k := by omega
      have hN2 := hN.out
      rw [hk', List.take_length] at hN2
      replace hN2 := hide hN2
      replace hk' := hide hk'
      obtain ⟨C, ccap, rfl⟩ := own_form ho.1
      clear hN hat
      go_wp2_with fail
      go_returns
      exact ⟨_, N, rfl, hN2.out, ho, hX⟩
set_option maxHeartbeats 8000000 in
set_option maxRecDepth 100000 in
theorem packRest_c (L : List Ve) (t : Int) (hL : L.length * 40 ≤ 140737488351232) (hr : ∀ p ∈ L, p.2.1.length * 32 ≤ 140737488351232) (v : Value) (w : World) (h : Ew w [] v L) : Calls Tryz.prog 30 #[v, .int .i64 t] w fun e w' => ∃ v' M, e = .returned v' ∧ eds M = (eds L).flatMap (pcRe t) ∧ OwnPr w' w.heap.size v' M ∧ Ext w w' := by
  obtain ⟨A, cap, rfl, hlc, hlm, hat⟩ := ew_form h
  unfold maxLen at hlm
  have hv := hide h
  replace hat := hide hat
  replace hr := hide hr
  clear h
  go_enter Tryz.func30, Tryz.ntmps30
  go_wp2_with fail
  go_loopg [5, 10] L.length (fun gh vv i wr => ∃ (k : Nat) (N : List Ve), i = .int .i64 k ∧ k + gh = L.length ∧ OwnPr wr w.heap.size vv N ∧ N.length ≤ k ∧ Hid (eds N = (eds (L.take k)).flatMap (pcRe t)) ∧ Ext w wr)
  case atStart => exact ⟨0, [], rfl, by omega, OwnPr.nil _ _, Nat.le_refl _, (by show _ = _; simp [eds]), Ext.refl _⟩
  case round =>
    obtain ⟨k, N, rfl, hk, ho, hNk, hN, hX⟩ := hrel
    have hzX := hX.size
    by_cases hlt : k < L.length
    · obtain ⟨x, hx⟩ : ∃ x, L[k]? = some x := ⟨_, List.getElem?_eq_getElem hlt⟩
      obtain ⟨b, o, rfl, -, hb, c0, c1, c2⟩ := hat.out k x hx
      have k0 := cell_later hX c0
      have k1 := cell_later hX c1
      have k2 := cell_later hX c2
      have hbr : b < wr.heap.size := block_lt_of_cell k0
      have hrw := Sl.ext (hv.out.2 x (List.mem_of_getElem? hx)) hX
      have hrz := hr.out x (List.mem_of_getElem? hx)
      have hnx : Hid (eds N ++ pcRe t x.2 = (eds (L.take (k + 1))).flatMap (pcRe t)) := by
        show _ = _
        rw [List.take_add_one, hx, Option.toList_some, hN.out]; simp [eds]
      obtain ⟨xv, xq, xa, xn⟩ := x
      simp only at k0 k1 k2 hrw hnx hrz
      have hpc := hide (fun f' t' w' (hX' : Ext wr w') => piece_c xq f' t' xv w' (Sl.ext hrw hX') hrz)
      obtain ⟨XA, xcap, rfl⟩ := rw_val hrw
      have ho0 := hide ho
      obtain ⟨C, ccap, rfl⟩ := own_form ho.1
      clear c0 c1 c2 hat hx hrw hv ho hN hr
      by_cases hc : t < xn
      · have d1 : decide (t < xn) = true := decide_eq_true hc
        unfold pcRe at hnx
        rw [if_pos hc] at hnx
        by_cases hm : t ≤ xa
        · have hmm : max xa t = xa := by omega
          rw [hmm] at hnx
          go_wp2_with (first | (go_at_call 64; refine (hpc.out _ _ _ ((Ext.refl wr).alloc _)).mono ?_; rintro ee w5 ⟨A5, c5, rfl, ho5, hx5⟩; have hX5 := hide (((Ext.refl wr).alloc (.cells #[.slice XA xq.length xcap, .int .i64 xa, .int .i64 xn] 48)).trans hx5); have hlit := hide (litP1 (.slice A5 xq.length c5) xq (xa, xn) w5 (Sl.own (S := []) ho5 (by simp))); have hX6 := hide (hX5.out.trans ((Ext.refl w5).alloc (.cells #[.slice A5 xq.length c5, .int .i64 xa, .int .i64 xn] 48)))) | (at_builtin; (refine wpl_app tPc rfl (.tmp 19) (.tmp 31) rfl rfl (own_ext ho0.out.1 hX6.out) rfl (src_sl Tryz.underlying33 hlit.out.1 (Ew.one hlit.out) (by omega)) (by unfold maxLen; show N.length + 1 ≤ _; omega) (by show (N.length + 1) * 40 ≤ _; omega) (Nat.le_trans hzX hX6.out.size) ?_; intro v8 w8 ho8 hg8 hob8; have hX8 := hide (ext_grown (hX.trans hX6.out) hg8 (fun q hq => (ho0.out.1.lt q hq).1)))))
          go_roundg (L.length - (k + 1))
          case measure => omega
          case rel =>
            have ho9 : OwnPr w8 w.heap.size v8 (N ++ [(.slice A5 xq.length c5, xq, (xa, xn))]) := (ho0.out.ext hX6.out).app (own_appP (M := [(.slice A5 xq.length c5, xq, (xa, xn))]) (by simpa [ec, ec1] using ho8)) hg8 hob8 (fun p hp => by
              obtain rfl := List.mem_singleton.1 hp
              refine ⟨List.range wr.heap.size, Sl.ext (Sl.own ho5 (fun k hk => by have := List.mem_range.1 hk; have := hx5.size; simp only [World.size_alloc] at *; omega)) ((Ext.refl w5).alloc _), fun q hq => List.mem_range.2 ?_⟩
              rcases List.mem_append.1 hq with hq | hq
              · have := (ob_ge ho0.out.1 q hq).2; omega
              · have := List.mem_range.1 hq; omega)
            exact ⟨k + 1, _, by go_num, by omega, ho9, by rw [List.length_append, List.length_singleton]; omega, by show _ = _; rw [eds, List.map_append]; exact hnx.out, hX8.out⟩
        · have hm' : ¬ (t ≤ xa) := hm
          have hmm : max xa t = t := by omega
          rw [hmm] at hnx
          go_wp2_with (first | (go_at_call 64; refine (hpc.out _ _ _ ((Ext.refl wr).alloc _)).mono ?_; rintro ee w5 ⟨A5, c5, rfl, ho5, hx5⟩; have hX5 := hide (((Ext.refl wr).alloc (.cells #[.slice XA xq.length xcap, .int .i64 xa, .int .i64 xn] 48)).trans hx5); have hlit := hide (litP1 (.slice A5 xq.length c5) xq (t, xn) w5 (Sl.own (S := []) ho5 (by simp))); have hX6 := hide (hX5.out.trans ((Ext.refl w5).alloc (.cells #[.slice A5 xq.length c5, .int .i64 t, .int .i64 xn] 48)))) | (at_builtin; (refine wpl_app tPc rfl (.tmp 19) (.tmp 31) rfl rfl (own_ext ho0.out.1 hX6.out) rfl (src_sl Tryz.underlying33 hlit.out.1 (Ew.one hlit.out) (by omega)) (by unfold maxLen; show N.length + 1 ≤ _; omega) (by show (N.length + 1) * 40 ≤ _; omega) (Nat.le_trans hzX hX6.out.size) ?_; intro v8 w8 ho8 hg8 hob8; have hX8 := hide (ext_grown (hX.trans hX6.out) hg8 (fun q hq => (ho0.out.1.lt q hq).1)))))
          go_roundg (L.length - (k + 1))
          case measure => omega
          case rel =>
            have ho9 : OwnPr w8 w.heap.size v8 (N ++ [(.slice A5 xq.length c5, xq, (t, xn))]) := (ho0.out.ext hX6.out).app (own_appP (M := [(.slice A5 xq.length c5, xq, (t, xn))]) (by simpa [ec, ec1] using ho8)) hg8 hob8 (fun p hp => by
              obtain rfl := List.mem_singleton.1 hp
              refine ⟨List.range wr.heap.size, Sl.ext (Sl.own ho5 (fun k hk => by have := List.mem_range.1 hk; have := hx5.size; simp only [World.size_alloc] at *; omega)) ((Ext.refl w5).alloc _), fun q hq => List.mem_range.2 ?_⟩
              rcases List.mem_append.1 hq with hq | hq
              · have := (ob_ge ho0.out.1 q hq).2; omega
              · have := List.mem_range.1 hq; omega)
            exact ⟨k + 1, _, by go_num, by omega, ho9, by rw [List.length_append, List.length_singleton]; omega, by show _ = _; rw [eds, List.map_append]; exact hnx.out, hX8.out⟩
      · have d1 : decide (t < xn) = false := decide_eq_false hc
        unfold pcRe at hnx
        rw [if_neg hc, List.append_nil] at hnx
        go_wp2_with fail
        go_roundg (L.length - (k + 1))
        case measure => omega
        case rel => exact ⟨k + 1, _, by go_num, by omega, ho0.out.ext ((Ext.refl wr).alloc _), by omega, hnx, hX.alloc _⟩
    · have hk' : k = L.length := by omega
      have hge : (L.length : Int) ≤ k := by omega
      have hN2 := hN.out
      rw [hk', List.take_length] at hN2
      replace hN2 := hide hN2
      replace hk' := hide hk'
      obtain ⟨C, ccap, rfl⟩ := own_form ho.1
      clear hN hat
      go_wp2_with fail
      go_returns
      exact ⟨_, N, rfl, hN2.out, ho, hX⟩
end Go.Proofs.YtgniebjigphcgaaGreat
