/-
  A helper of ours: no claim of its own. Layer 13 (fold), on lists: behind a mark nothing ahead of it changes.
-/
import Derived.Test.YtobmjcehgpmfgaaGreatPakD
import Derived.Test.YtobmjcehgpmfgaaGreatPakJ
set_option linter.unusedVariables false
set_option linter.unusedSimpArgs false
namespace Go.Proofs.YtobmjcehgpmfgaaGreat
open Go.RowKit
attribute [local go_sem] GW.cell GW.frozen In.eq_true In.le_true In.ne In.ne' In.ne_add In.ne_add' In.lt_add Upto.le_true Upto.le_add Upto.lt_add
set_option maxHeartbeats 2000000 in
theorem piece_c (q : List Vl) (f t : Int) (v : Value) (w : World) (h : Rw w [] v q) (hz : q.length * 32 ≤ 140737488351232) : Calls Tryz.prog 110 #[v, .int .i64 f, .int .i64 t] w fun e w' => ∃ A cp, e = .returned (em (.slice A q.length cp) (f, t)) ∧ OwnR w' w.heap.size (.slice A q.length cp) q ∧ Ext w w' := by
  have hc := hide (fun w' (hX : Ext w w') => rowCopy_c q v w' (Sl.ext h hX) hz)
  have hX0 := hide ((Ext.refl w).alloc (.cells #[.slice none 0 0, .int .i64 0, .int .i64 0] 147))
  have O0 := hide (Ob.new w 147 [.slice none 0 0, .int .i64 0, .int .i64 0])
  obtain ⟨VA, vcap, rfl⟩ := rw_val h
  clear h
  go_enter Tryz.func110, Tryz.ntmps110
  go_wp2_with (go_at_call 98; refine (hc.out _ hX0.out).mono ?_; rintro ee w1 ⟨v1, rfl, ho1, hx1⟩; have O1 := O0.out.ext hx1; have c0 := O1.cell 0 rfl; have c1 := O1.cell 1 rfl; have c2 := O1.cell 2 rfl; have z0 := O1.free 0; have z1 := O1.free 1; have z2 := O1.free 2; have hlt1 := O1.lt; haveI : In w.heap.size w1 := ⟨hlt1⟩; obtain ⟨A1, cp1, rfl⟩ := own_form ho1)
  refine bodyPost_ret (by simp [results, Tryz.results110, go_sem, c0, c1, c2]; try rfl) rfl ?_
  have hF := (((Fr.refl [w.heap.size] w1).setCell ⟨w.heap.size, 0, none⟩ (.slice A1 q.length cp1) (.inl (by simp))).setCell ⟨w.heap.size, 1, none⟩ (.int .i64 f) (.inl (by simp))).setCell ⟨w.heap.size, 2, none⟩ (.int .i64 t) (.inl (by simp))
  exact ⟨_, _, rfl, own_base (own_fr ho1 hF (by intro x hx; simp at hx; subst hx; simp)) (by simp), ext_fr (hX0.out.trans hx1) hF (by intro x hx; simp at hx; omega)⟩
end Go.Proofs.YtobmjcehgpmfgaaGreat
set_option linter.unusedVariables false
set_option linter.unusedSimpArgs false
namespace Go.Proofs.YtobmjcehgpmfgaaGreat
open Go.RowKit
attribute [local go_sem] GW.cell GW.frozen In.eq_true In.le_true In.ne In.ne' In.ne_add In.ne_add' In.lt_add Upto.le_true Upto.le_add Upto.lt_add
/-- What of a piece is ahead of a tick, what is from it on. -/
def pcAh (t : Int) (e : Ed) : List Ed := if e.2.1 < t then [(e.1, (e.2.1, min e.2.2 t))] else []
def pcRe (t : Int) (e : Ed) : List Ed := if t < e.2.2 then [(e.1, (max e.2.1 t, e.2.2))] else []
set_option maxHeartbeats 8000000 in
set_option maxRecDepth 100000 in
theorem packAhead_c (L : List Ve) (t : Int) (hL : L.length * 40 ≤ 140737488351232) (hr : ∀ p ∈ L, p.2.1.length * 32 ≤ 140737488351232) (v : Value) (w : World) (h : Ew w [] v L) : Calls Tryz.prog 46 #[v, .int .i64 t] w fun e w' => ∃ v' M, e = .returned v' ∧ eds M = (eds L).flatMap (pcAh t) ∧ OwnPr w' w.heap.size v' M ∧ Ext w w' := by
  obtain ⟨A, cap, rfl, hlc, hlm, hat⟩ := ew_form h
  unfold maxLen at hlm
  have hv := hide h
  replace hat := hide hat
  replace hr := hide hr
  clear h
  go_enter Tryz.func46, Tryz.ntmps46
  go_wp2_with fail
  go_loopg [5, 10] L.length (fun gh vv i wr => ∃ (k : Nat) (N : List Ve), i = .int .i64 k ∧ k + gh = L.length ∧ OwnPr wr w.heap.size vv N ∧ N.length ≤ k ∧ Hid (eds N = (eds (L.take k)).flatMap (pcAh t)) ∧ Ext w wr)
  case atStart => exact ⟨0, [], rfl, by omega, OwnPr.nil _ _, Nat.le_refl _, (by show _ = _; simp [eds]), Ext.refl _⟩
  case round =>
    obtain ⟨k, N, rfl, hk, ho, hNk, hN, hX⟩ := hrel
    have hzX := hX.size
    by_cases hlt : k < L.length
    · obtain ⟨x, hx⟩ : ∃ x, L[k]? = some x := ⟨_, List.getElem?_eq_getElem hlt⟩
      obtain ⟨b, o, rfl, -, hb, c0, c1, c2⟩ := hat.out k x hx
      have k0 := cell_later hX c0
      have k1 := cell_later hX c1
      have k2 := cell_later hX c2
      have hbr : b < wr.heap.size := block_lt_of_cell k0
      have hrw := Sl.ext (hv.out.2 x (List.mem_of_getElem? hx)) hX
      have hrz := hr.out x (List.mem_of_getElem? hx)
      have hnx : Hid (eds N ++ pcAh t x.2 = (eds (L.take (k + 1))).flatMap (pcAh t)) := by
        show _ = _
        rw [List.take_add_one, hx, Option.toList_some, hN.out]; simp [eds]
      obtain ⟨xv, xq, xa, xn⟩ := x
      simp only at k0 k1 k2 hrw hnx hrz
      have hpc := hide (fun f' t' w' (hX' : Ext wr w') => piece_c xq f' t' xv w' (Sl.ext hrw hX') hrz)
      obtain ⟨XA, xcap, rfl⟩ := rw_val hrw
      have ho0 := hide ho
      obtain ⟨C, ccap, rfl⟩ := own_form ho.1
      clear c0 c1 c2 hat hx hrw hv ho hN hr
      by_cases hc : xa < t
      · have d1 : decide (xa < t) = true := decide_eq_true hc
        unfold pcAh at hnx
        rw [if_pos hc] at hnx
        by_cases hm : xn ≤ t
        · have hmm : min xn t = xn := by omega
          rw [hmm] at hnx
          go_wp2_with (first | (go_at_call 110; refine (hpc.out _ _ _ ((Ext.refl wr).alloc _)).mono ?_; rintro ee w5 ⟨A5, c5, rfl, ho5, hx5⟩; have hX5 := hide (((Ext.refl wr).alloc (.cells #[.slice XA xq.length xcap, .int .i64 xa, .int .i64 xn] 147)).trans hx5); have hlit := hide (litP1 (.slice A5 xq.length c5) xq (xa, xn) w5 (Sl.own (S := []) ho5 (by simp))); have hX6 := hide (hX5.out.trans ((Ext.refl w5).alloc (.cells #[.slice A5 xq.length c5, .int .i64 xa, .int .i64 xn] 147)))) | (at_builtin; (refine wpl_app tPc rfl (.tmp 19) (.tmp 31) rfl rfl (own_ext ho0.out.1 hX6.out) rfl (src_sl Tryz.underlying42 hlit.out.1 (Ew.one hlit.out) (by omega)) (by unfold maxLen; show N.length + 1 ≤ _; omega) (by show (N.length + 1) * 40 ≤ _; omega) (Nat.le_trans hzX hX6.out.size) ?_; intro v8 w8 ho8 hg8 hob8; have hX8 := hide (ext_grown (hX.trans hX6.out) hg8 (fun q hq => (ho0.out.1.lt q hq).1)))))
          go_roundg (L.length - (k + 1))
          case measure => omega
          case rel =>
            have ho9 : OwnPr w8 w.heap.size v8 (N ++ [(.slice A5 xq.length c5, xq, (xa, xn))]) := (ho0.out.ext hX6.out).app (own_appP (M := [(.slice A5 xq.length c5, xq, (xa, xn))]) (by simpa [ec, ec1] using ho8)) hg8 hob8 (fun p hp => by
              obtain rfl := List.mem_singleton.1 hp
              refine ⟨List.range wr.heap.size, Sl.ext (Sl.own ho5 (fun k hk => by have := List.mem_range.1 hk; have := hx5.size; simp only [World.size_alloc] at *; omega)) ((Ext.refl w5).alloc _), fun q hq => List.mem_range.2 ?_⟩
              rcases List.mem_append.1 hq with hq | hq
              · have := (ob_ge ho0.out.1 q hq).2; omega
              · have := List.mem_range.1 hq; omega)
            exact ⟨k + 1, _, by go_num, by omega, ho9, by rw [List.length_append, List.length_singleton]; omega, by show _ = _; rw [eds, List.map_append]; exact hnx.out, hX8.out⟩
        · have hm' : ¬ (xn ≤ t) := hm
          have hmm : min xn t = t := by omega
          rw [hmm] at hnx
          go_wp2_with (first | (go_at_call 110; refine (hpc.out _ _ _ ((Ext.refl wr).alloc _)).mono ?_; rintro ee w5 ⟨A5, c5, rfl, ho5, hx5⟩; have hX5 := hide (((Ext.refl wr).alloc (.cells #[.slice XA xq.length xcap, .int .i64 xa, .int .i64 xn] 147)).trans hx5); have hlit := hide (litP1 (.slice A5 xq.length c5) xq (xa, t) w5 (Sl.own (S := []) ho5 (by simp))); have hX6 := hide (hX5.out.trans ((Ext.refl w5).alloc (.cells #[.slice A5 xq.length c5, .int .i64 xa, .int .i64 t] 147)))) | (at_builtin; (refine wpl_app tPc rfl (.tmp 19) (.tmp 31) rfl rfl (own_ext ho0.out.1 hX6.out) rfl (src_sl Tryz.underlying42 hlit.out.1 (Ew.one hlit.out) (by omega)) (by unfold maxLen; show N.length + 1 ≤ _; omega) (by show (N.length + 1) * 40 ≤ _; omega) (Nat.le_trans hzX hX6.out.size) ?_; intro v8 w8 ho8 hg8 hob8; have hX8 := hide (ext_grown (hX.trans hX6.out) hg8 (fun q hq => (ho0.out.1.lt q hq).1)))))
          go_roundg (L.length - (k + 1))
          case measure => omega
          case rel =>
            have ho9 : OwnPr w8 w.heap.size v8 (N ++ [(.slice A5 xq.length c5, xq, (xa, t))]) := (ho0.out.ext hX6.out).app (own_appP (M := [(.slice A5 xq.length c5, xq, (xa, t))]) (by simpa [ec, ec1] using ho8)) hg8 hob8 (fun p hp => by
              obtain rfl := List.mem_singleton.1 hp
              refine ⟨List.range wr.heap.size, Sl.ext (Sl.own ho5 (fun k hk => by have := List.mem_range.1 hk; have := hx5.size; simp only [World.size_alloc] at *; omega)) ((Ext.refl w5).alloc _), fun q hq => List.mem_range.2 ?_⟩
              rcases List.mem_append.1 hq with hq | hq
              · have := (ob_ge ho0.out.1 q hq).2; omega
              · have := List.mem_range.1 hq; omega)
            exact ⟨k + 1, _, by go_num, by omega, ho9, by rw [List.length_append, List.length_singleton]; omega, by show _ = _; rw [eds, List.map_append]; exact hnx.out, hX8.out⟩
      · have d1 : decide (xa < t) = false := decide_eq_false hc
        unfold pcAh at hnx
        rw [if_neg hc, List.append_nil] at hnx
        go_wp2_with fail
        go_roundg (L.length - (k + 1))
        case measure => omega
        case rel => exact ⟨k + 1, _, by go_num, by omega, ho0.out.ext ((Ext.refl wr).alloc _), by omega, hnx, hX.alloc _⟩
    · have hk' : k = L.length := by omega
      have hge : (L.length : Int) ≤ k := by omega
      have hN2 := hN.out
      rw [hk', List.take_length] at hN2
      replace hN2 := hide hN2
      replace hk' := hide hk'
      obtain ⟨C, ccap, rfl⟩ := own_form ho.1
      clear hN hat
      go_wp2_with fail
      go_returns
      exact ⟨_, N, rfl, hN2.out, ho, hX⟩
end Go.Proofs.YtobmjcehgpmfgaaGreat
set_option linter.unusedVariables false
set_option linter.unusedSimpArgs false
namespace Go.Proofs.YtobmjcehgpmfgaaGreat
open Go.RowKit
/-- Whether an event stands at a tick, of a row. -/
def indE (q : List Vl) (s : Int) (e : Ev) : Int := if e.1.2 = q ∧ e.2.2 = false ∧ e.2.1.1 ≤ s ∧ s < e.2.1.2 then 1 else 0
def valE (q : List Vl) (s : Int) : List Ev → Int
  | [] => 0
  | e :: r => indE q s e + valE q s r
theorem valE_app (q : List Vl) (s : Int) : ∀ a b : List Ev, valE q s (a ++ b) = valE q s a + valE q s b
  | [], b => by simp [valE]
  | e :: r, b => by simp only [List.cons_append, valE]; rw [valE_app q s r b]; omega
theorem valE_set (q : List Vl) (s : Int) : ∀ (l : List Ev) (j : Nat) (e e' : Ev), l[j]? = some e → valE q s (l.set j e') = valE q s l - indE q s e + indE q s e'
  | x :: r, 0, e, e', h => by
    simp at h; subst h
    simp only [List.set_cons_zero, valE]; omega
  | x :: r, j + 1, e, e', h => by
    simp only [List.set_cons_succ, valE]
    rw [valE_set q s r j e e' (by simpa using h)]; omega
theorem clk_mono (S : StD) (m : PM) : S.1 ≤ (stp S m).1 := by
  rw [stp_clk]
  split
  · rename_i h
    obtain ⟨h0, h3⟩ := h
    have := (chkO_zero h0).2.2.1 (by rw [h3]; decide)
    exact this
  · exact Int.le_refl _
theorem run_mono : ∀ (l : List PM) (S : StD), S.1 ≤ (runS S l).1
  | [], S => Int.le_refl _
  | m :: r, S => Int.le_trans (clk_mono S m) (run_mono r (stp S m))
/-- One message changes nothing ahead of the clock. -/
theorem stp_keep (S : StD) (m : PM) (q : List Vl) (s : Int) (hs : s < S.1) : valE q s (stp S m).2 = valE q s S.2 := by
  unfold stp
  by_cases h0 : chkD S m = 0
  · rw [if_pos h0]
    obtain ⟨z1, z2, z3, z4⟩ := chkO_zero h0
    unfold tk
    by_cases h3 : m.1.1 = 3
    · rw [if_pos h3]
    · rw [if_neg h3]
      by_cases h1 : m.1.1 = 1
      · rw [if_pos h1]
        simp only
        rw [valE_app]
        have hf := z3 (by rw [h1]; decide)
        simp only [valE, indE]
        rw [if_neg (by intro h; have := h.2.2.1; omega)]
        omega
      · rw [if_neg h1]
        have h2 : m.1.1 = 2 := by rcases mchk_kind z1 with hk | hk | hk; exact absurd hk h1; exact hk; exact absurd hk h3
        obtain ⟨x, hx, y1, y2, y3⟩ := z2 h2
        cases hk : kn S.1 m.1.2.1 0 S.2 with
        | none => rfl
        | some p =>
          obtain ⟨j, e⟩ := p
          rw [hk, Option.map_some, Option.some.injEq] at hx
          subst hx
          simp only at y1 y2 y3
          obtain ⟨-, hj, hl⟩ := kn_some hk
          rw [Nat.sub_zero] at hj
          obtain ⟨l1, l2, l3⟩ := live_iff.1 hl
          simp only
          rw [valE_set q s S.2 j e _ hj]
          by_cases ht : m.1.2.2.2 = e.2.1.1
          · rw [if_pos ht]
            unfold indE
            rw [if_neg (by intro h; have := h.2.2.1; omega), if_neg (by intro h; cases h.2.1)]
            omega
          · rw [if_neg ht]
            unfold indE
            simp only
            by_cases hq : e.1.2 = q ∧ e.2.1.1 ≤ s
            · rw [if_pos ⟨hq.1, l2, hq.2, by omega⟩, if_pos ⟨hq.1, trivial, hq.2, by omega⟩]
              omega
            · rw [if_neg (fun h => hq ⟨h.1, h.2.2.1⟩), if_neg (fun h => hq ⟨h.1, h.2.2.1⟩)]
              omega
  · rw [if_neg h0]
theorem run_keep : ∀ (l : List PM) (S : StD) (q : List Vl) (s : Int), s < S.1 → valE q s (runS S l).2 = valE q s S.2
  | [], S, q, s, hs => rfl
  | m :: r, S, q, s, hs => (run_keep r (stp S m) q s (Int.lt_of_lt_of_le hs (clk_mono S m))).trans (stp_keep S m q s hs)
/-! the pieces of messages, at a tick -/
theorem alive_ex (q : List Vl) (s : Int) : ∀ l : List Ev, aliveL q s (((exL l).filter fun x => !goneX x).map exP1) = valE q s l
  | [] => rfl
  | e :: r => by
    have ih := alive_ex q s r
    have hc : exL (e :: r) = exE e :: exL r := rfl
    rw [hc]
    obtain ⟨e1, ⟨e2, e3⟩, eg⟩ := e
    simp only [valE]
    cases hg : goneX (exE (e1, (e2, e3), eg))
    · rw [List.filter_cons_of_pos (by rw [hg]; rfl), List.map_cons, aliveL, ih]
      have hgf : eg = false := by
        cases eg
        · rfl
        · exact absurd hg (by simp [goneX, exE])
      subst hgf
      congr 1
      unfold indE
      show (if e1.2 = q ∧ e2 ≤ s ∧ s < e3 then (1 : Int) else 0) = if e1.2 = q ∧ false = false ∧ e2 ≤ s ∧ s < e3 then 1 else 0
      by_cases h : e1.2 = q ∧ e2 ≤ s ∧ s < e3
      · rw [if_pos h, if_pos ⟨h.1, rfl, h.2.1, h.2.2⟩]
      · rw [if_neg h, if_neg (fun k => h ⟨k.1, k.2.2.1, k.2.2.2⟩)]
    · rw [List.filter_cons_of_neg (by rw [hg]; decide), ih]
      have : indE q s (e1, (e2, e3), eg) = 0 := by
        unfold indE
        refine if_neg fun k => ?_
        obtain ⟨-, k2, k3, k4⟩ := k
        simp only at k2 k3 k4
        subst k2
        have := of_decide_eq_true hg
        simp only [exE] at this
        have h1 := this.1
        have h2 := this.2
        simp at h1 h2
        omega
      rw [this]; omega
theorem exP_val (l : List PM) (q : List Vl) (s : Int) : aliveL q s (exP l) = valE q s (runS (0, []) l).2 := alive_ex q s _
theorem stp_rng (S : StD) (m : PM) (h : 0 ≤ S.1 ∧ S.1 ≤ 1125899906842624) : 0 ≤ (stp S m).1 ∧ (stp S m).1 ≤ 1125899906842624 := by
  rw [stp_clk]
  split
  · rename_i k
    obtain ⟨h0, h3⟩ := k
    have z := (chkO_zero h0).1
    unfold mkM at z
    rw [h3] at z
    exact mchk_three z
  · exact h
theorem run_rng : ∀ (l : List PM) (S : StD), 0 ≤ S.1 ∧ S.1 ≤ 1125899906842624 → 0 ≤ (runS S l).1 ∧ (runS S l).1 ≤ 1125899906842624
  | [], _, h => h
  | m :: r, S, h => run_rng r (stp S m) (stp_rng S m h)
theorem okS_ext {S T : List Sp} (hS : OkS S) (hT : OkS T) (h : ∀ u, jv (spj S) u = jv (spj T) u) : S = T := by
  rw [← life_form hS, ← life_form hT, nmL_eq (fun j hj => (okS_fine hS.rng j hj).2) (fun j hj => (okS_fine hT.rng j hj).2) h]
/-- Two packed tables that agree ahead of a tick are one ahead of it. -/
theorem ahead_same {P Q : List Ed} (hP : pkE P = 0) (hQ : pkE Q = 0) (t : Int) (h0 : 0 ≤ t) (hF : t ≤ 1125899906842624) (h : ∀ r u, u < t → aliveL r u P = aliveL r u Q) : (ppR P).flatMap (pcAh t) = (ppR Q).flatMap (pcAh t) := by
  have one : ∀ {X : List Ed}, pkE X = 0 → Rise (ppR X) ∧ (∀ r, OkS (jmps (ppR X) r)) ∧ ∀ r u, u < t → jv (spj (jmps (ppR X) r)) u = aliveL r u X := fun {X} hX => by
    have hE := (pk_zero hX).2.2.1
    have hr := mayE_rise hE
    have htab := pk_tab hX
    refine ⟨by rw [pp_ok hX]; exact pieces_rise hr, fun r => ?_, fun r u hu => ?_⟩
    · rw [pp_ok hX, jmps_pieces hr]
      exact life_ok (mayJ_rows hE r) (tab_le htab r)
    · rw [← alive_jv (by rw [pp_ok hX]; exact pieces_may htab)]
      exact (alive_pack hX r (by omega)).1
  obtain ⟨p1, p2, p3⟩ := one hP
  obtain ⟨q1, q2, q3⟩ := one hQ
  refine ed_ext (cut_rise (pcAh t) (spAh t) (pcAh_sp t) (spAh_len t) p1).1 (cut_rise (pcAh t) (spAh t) (pcAh_sp t) (spAh_len t) q1).1 fun r => ?_
  rw [jmps_cut (pcAh t) (spAh t) (pcAh_sp t), jmps_cut (pcAh t) (spAh t) (pcAh_sp t)]
  refine okS_ext (ah_ok (p2 r) t h0 hF) (ah_ok (q2 r) t h0 hF) fun u => ?_
  rw [ah_jv (p2 r).rng, ah_jv (q2 r).rng]
  by_cases hu : u < t
  · rw [if_pos hu, if_pos hu, p3 r u hu, q3 r u hu, h r u hu]
  · rw [if_neg hu, if_neg hu]
/-- Behind a mark nothing ahead of it changes. -/
theorem keep_ahead (l more : List PM) (h1 : ppE (exP l) = 0) (h2 : ppE (exP (l ++ more)) = 0) : (ppR (exP l)).flatMap (pcAh (runS (0, []) l).1) = (ppR (exP (l ++ more))).flatMap (pcAh (runS (0, []) l).1) := by
  rw [pp_eq] at h1 h2
  have hr := run_rng l (0, []) ⟨Int.le_refl _, by decide⟩
  refine ahead_same h1 h2 _ hr.1 hr.2 fun r u hu => ?_
  rw [exP_val, exP_val, runS_app, run_keep more _ r u hu]
theorem keep_clock (l more : List PM) : (runS (0, []) l).1 ≤ (runS (0, []) (l ++ more)).1 := by
  rw [runS_app]; exact run_mono more _
end Go.Proofs.YtobmjcehgpmfgaaGreat
