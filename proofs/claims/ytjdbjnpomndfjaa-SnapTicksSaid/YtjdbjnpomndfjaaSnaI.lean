/-
  A helper of ours: no claim of its own. Layer 27 (snap): the walk of the law SnapTicks.
-/
import Derived.Test.YtjdbjnpomndfjaaEdgQ
import Derived.Test.YtjdbjnpomndfjaaSnaP
set_option linter.unusedVariables false
set_option linter.unusedSimpArgs false
namespace Go.Proofs.Ytjdbjnpomndfjaa
open Go.RowKit
attribute [local go_sem] GW.cell GW.frozen In.eq_true In.le_true In.ne In.ne' In.ne_add In.ne_add' In.lt_add Upto.le_true Upto.le_add Upto.lt_add
/-- The parts that have a tick; the rows of the last of them. -/
def hasP (t : Int) (R : List Pt) : List Pt := R.filter fun p => hasT t p.1
def lastR (R : List Pt) : List Cp := (R.getLast?.map Prod.snd).getD []
theorem hasP_next {R : List Pt} {k : Nat} {p : Pt} (h : R[k]? = some p) (t : Int) : hasP t (R.take (k + 1)) = if hasT t p.1 = true then hasP t (R.take k) ++ [p] else hasP t (R.take k) := by
  unfold hasP
  rw [List.take_add_one, h, List.filter_append]
  cases hb : hasT t p.1
  · rw [if_neg (by decide), Option.toList_some, List.filter_cons_of_neg (by simp [hb])]; simp
  · rw [if_pos rfl, Option.toList_some, List.filter_cons_of_pos (by simp [hb])]; rfl
theorem lastR_snoc (R : List Pt) (p : Pt) : lastR (R ++ [p]) = p.2 := by unfold lastR; simp
theorem hasP_len (t : Int) (R : List Pt) (k : Nat) : (hasP t (R.take k)).length ≤ k := by
  unfold hasP
  have := List.length_filter_le (fun p : Pt => hasT t p.1) (R.take k)
  rw [List.length_take] at this
  omega
set_option maxHeartbeats 8000000 in
set_option maxRecDepth 100000 in
theorem snapTicks_walk (L : List Ve) (f t : Int) (v : Value) (w : World) (hC : Ew w [] v L) : Calls Try.prog 5 #[v, .int .i64 f, .int .i64 t] w fun e w' => e = .returned (.bool true) ∧ Ext w w' := by
  have hl := hide (fun w => snLive_c w)
  have hpa := hide (snParts_c L f v w hC)
  have hal := hide (fun hm w' (hX : Ext w w') => refAlive_c L hm t v w' (hC.ext hX))
  obtain ⟨A, cap, rfl, hlc, hlm, -⟩ := ew_form hC
  unfold maxLen at hlm
  clear hC
  by_cases c1 : (200 : Int) < L.length
  · go_enter Try.func5, Try.ntmps5
    go_wp2_with (go_at_call 16; (with_reducible refine seq_gw (hl.out _) ?_); intro g2)
    go_returns
    exact ⟨rfl, g2.grown⟩
  by_cases c2 : t < f
  · go_enter Try.func5, Try.ntmps5
    go_wp2_with (go_at_call 16; (with_reducible refine seq_gw (hl.out _) ?_); intro g2)
    go_returns
    exact ⟨rfl, g2.grown⟩
  by_cases c3 : 1125899906842624 ≤ t
  · go_enter Try.func5, Try.ntmps5
    go_wp2_with (go_at_call 16; (with_reducible refine seq_gw (hl.out _) ?_); intro g2)
    go_returns
    exact ⟨rfl, g2.grown⟩
  obtain ⟨E, hE⟩ : ∃ E, E = snE (eds L) f := ⟨_, rfl⟩
  obtain ⟨R, hR⟩ : ∃ R, R = snL (eds L) f := ⟨_, rfl⟩
  rw [← hE, ← hR] at hpa
  by_cases hE0 : E = 0
  case neg =>
    have hR0 : R = [] := by rw [hR]; unfold snL; rw [← hE, if_neg hE0]
    subst hR0
    have hb : (E == 0) = false := by simpa using hE0
    have hb2 : (E != 0) = true := by simpa using hE0
    replace hE := hide hE
    replace hR := hide hR
    go_enter Try.func5, Try.ntmps5
    go_wp2_with (first | (go_at_call 19; refine hpa.out.mono ?_; rintro ee w4 ⟨v4, P, rfl, hP, ho4, hx4⟩; (obtain rfl : P = [] := by simpa using hP); have hx5 := hide hx4; obtain ⟨A4, c4, q4⟩ := ho4.form; subst q4; clear ho4 hx4 hP) | (go_at_call 16; (with_reducible refine seq_gw (hl.out _) ?_); intro g2))
    go_returns
    exact ⟨by first | rfl | simp, hx5.out.trans g2.grown⟩
  subst hE0
  have hm := (cuE_zero.1 (snE_zero hE.symm).1).1
  have hfin := hide (sn_tick hE.symm (by omega : f ≤ t) (by omega))
  have hal2 := hide (fun w' (hX : Ext w w') => hal.out hm w' hX)
  rw [← hR] at hfin
  have hRl : R.length ≤ 1024 := by rw [hR]; unfold snL; rw [← hE, if_pos rfl]; exact (snE_zero hE.symm).2
  clear hal
  replace hE := hide hE
  replace hR := hide hR
  replace hm := hide hm
  go_enter Try.func5, Try.ntmps5
  go_wp2_with (go_at_call 19; refine hpa.out.mono ?_; rintro ee w4 ⟨v4, P, rfl, hP, ho4, hx4⟩; have hx5 := hide hx4; have ho5 := hide ho4; have hP5 := hide hP; obtain ⟨A4, c4, q4⟩ := ho4.form; subst q4; clear ho4 hx4 hP)
  have hz0 : Cw (w4.alloc (.cells #[] 77)) [] (.slice (some ⟨w4.heap.size, 0, none⟩) 0 0) [] := ⟨Sl.own (World.ownsRow_lit (base := w4.heap.size) (e := 77) (size := 2) w4 #[] 0 (Nat.le_refl _) (by decide) rfl) (by simp), by simp⟩
  have hz1 := hide hz0
  have hPl : P.length ≤ 1024 := by have := congrArg List.length hP5.out; rw [List.length_map] at this; omega
  clear hz0
  go_loopg [9, 10, 11] P.length (fun gh u n i wr => ∃ (k : Nat) (C : List Vc), i = .int .i64 k ∧ n = .int .i64 (hasP t (R.take k)).length ∧ k + gh = P.length ∧ Hid (Cw wr [] u C) ∧ Hid (cps C = lastR (hasP t (R.take k))) ∧ Hid (Ext w4 wr))
  case atStart => exact ⟨0, [], by go_num, by simp [hasP], by omega, hz1, by simp [hasP, lastR, Hid], (Ext.refl w4).alloc _⟩
  case round =>
    clear hz1
    obtain ⟨k, C, rfl, rfl, hk, hCw, hcp, hX⟩ := hrel
    have hnk := hasP_len t R k
    obtain ⟨n, hn⟩ : ∃ n, n = (hasP t (R.take k)).length := ⟨_, rfl⟩
    rw [← hn] at hnk ⊢
    obtain ⟨CA, ccap, rfl⟩ := cw_val hCw.out
    by_cases hlt : k < P.length
    · obtain ⟨⟨x, ⟨s, u⟩, D⟩, hd⟩ : ∃ p, P[k]? = some p := ⟨_, List.getElem?_eq_getElem hlt⟩
      obtain ⟨A', cap', e', -, -, hat⟩ := pw_form (ho5.out.pw.ext hX.out)
      simp only [Value.slice.injEq] at e'
      obtain ⟨rfl, -, rfl⟩ := e'
      obtain ⟨b, o, rfl, -, hbl, d0, d1, d2⟩ := hat k _ hd
      have hD := (ho5.out.pw.ext hX.out).2 _ (List.mem_of_getElem? hd)
      simp only at d0 d1 d2 hD
      obtain ⟨DA, dcap, rfl⟩ := cw_val hD
      have hRk : R[k]? = some ((s, u), cps D) := by rw [← hP5.out, List.getElem?_map, hd]; rfl
      have hnx := hasP_next hRk t
      simp only at hnx
      haveI : In b wr := ⟨hbl⟩
      have hD' := hide hD
      clear hat hd hD hRk
      by_cases h1 : s ≤ t
      · by_cases h2 : t < u
        · rw [if_pos (by unfold hasT; simp; omega)] at hnx
          have hlen := congrArg List.length hnx
          rw [List.length_append, List.length_singleton, ← hn] at hlen
          have hlst := hide (show cps D = lastR (hasP t (R.take (k + 1))) by rw [hnx, lastR_snoc])
          replace hlen := hide hlen
          replace hnx := hide hnx
          replace hn := hide hn
          go_wp2_with fail
          go_roundg (P.length - (k + 1))
          case measure => omega
          case rel => exact ⟨k + 1, D, by go_num, by rw [hlen.out]; go_num, by omega, hD'.out, hlst.out, hX.out⟩
        · rw [if_neg (by unfold hasT; simp; omega)] at hnx
          have hlen := hide (congrArg List.length hnx)
          replace hn := hide hn
          have hlst := hide (show cps C = lastR (hasP t (R.take (k + 1))) by rw [hnx]; exact hcp.out)
          replace hnx := hide hnx
          go_wp2_with fail
          go_roundg (P.length - (k + 1))
          case measure => omega
          case rel => exact ⟨k + 1, C, by go_num, by rw [hlen.out, ← hn.out], by omega, hCw.out, hlst.out, hX.out⟩
      · rw [if_neg (by unfold hasT; simp; omega)] at hnx
        have hlen := hide (congrArg List.length hnx)
        replace hn := hide hn
        have hlst := hide (show cps C = lastR (hasP t (R.take (k + 1))) by rw [hnx]; exact hcp.out)
        replace hnx := hide hnx
        go_wp2_with fail
        go_roundg (P.length - (k + 1))
        case measure => omega
        case rel => exact ⟨k + 1, C, by go_num, by rw [hlen.out, ← hn.out], by omega, hCw.out, hlst.out, hX.out⟩
    · have hRk : R.take k = R := List.take_of_length_le (by rw [← hP5.out, List.length_map]; omega)
      have h0 : n ≤ 1 ∧ cps C = alG (grp (eds L)) t := by
        have h9 := hcp.out
        rw [hRk] at hn h9
        unfold hasP at hn h9
        rcases hfin.out with ⟨e1, e2⟩ | ⟨s, e1⟩
        · rw [e1] at hn h9
          rw [e2]
          exact ⟨by simp at hn; omega, h9⟩
        · rw [e1] at hn h9
          exact ⟨by simp at hn; omega, by rw [h9]; rfl⟩
      obtain ⟨hn1, hcc⟩ := h0
      have hcc' := hide hcc
      have hXw := hide (hx5.out.trans hX.out)
      replace hn := hide hn
      clear hcp hRk hcc
      have hnI : (n : Int) ≤ 1 := by omega
      go_wp2_with (first | (go_at_call 16; (with_reducible refine seq_gw (hl.out _) ?_); intro g2) | (go_at_call 23; refine (hal2.out _ (hXw.out.trans g2.grown)).mono ?_; rintro ee w7 ⟨v7, D, rfl, hD, hDw, hx7⟩; have hsc := hide (refSameCopies_c C D (hcc'.out.trans hD.symm) _ _ w7 ((hCw.out.ext g2.grown).ext hx7) hDw); have hx8 := hide ((hXw.out.trans g2.grown).trans hx7); obtain ⟨DA, dcap, q7⟩ := cw_val hDw; subst q7; clear hD hDw hx7) | (go_at_call 22; (with_reducible refine seq_gw hsc.out ?_); intro g9))
      go_returns
      exact ⟨by first | rfl | simp, hx8.out.trans g9.grown⟩
end Go.Proofs.Ytjdbjnpomndfjaa
