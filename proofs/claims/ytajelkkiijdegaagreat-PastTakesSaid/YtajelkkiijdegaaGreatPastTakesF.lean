/-
  A helper of ours: no claim of its own. The closed facts of the row of PastTakes, one by one.
-/
import Derived.Test.YtajelkkiijdegaaGreatPqP
import Derived.Test.YtajelkkiijdegaaGreatArgV
import Derived.Test.YtajelkkiijdegaaGreatIdx
import Derived.Test.YtajelkkiijdegaaGreatRows
import Derived.Test.YtajelkkiijdegaaGreatChecked
import Derived.WalkKit
import Derived.ProofKit
import Derived.JoinedCond
set_option linter.unusedVariables false
set_option linter.unusedSimpArgs false
namespace Go.Proofs.YtajelkkiijdegaaGreat
open Go.RowKit
attribute [local go_sem] GW.cell GW.frozen In.eq_true In.le_true In.ne In.ne' In.ne_add In.ne_add' In.lt_add Upto.le_true Upto.le_add Upto.lt_add
namespace Tak
set_option maxHeartbeats 16000000 in
set_option maxRecDepth 100000 in
theorem walk (sc : List Cl) (l : List Vm) (hi : ∀ p ∈ l, inM p.2) (s u : Value) (w : World) (hc : Cw w [] s sc) (hl : Mw w [] u l) : Calls Tryz.prog 3 #[s, u] w fun e w' => e = .returned (.bool true) ∧ Ext w w' := by
  obtain ⟨LA, lc, rfl, hlc, hlm, hat⟩ := mw_form hl
  obtain ⟨SA, scap, rfl, hsc1, hsc2, -⟩ := cw_form hc
  unfold maxLen at hlm
  by_cases hs : l.length ≤ 200
  · have d1 : ¬ (200 : Int) < l.length := by omega
    cases hm : mayS sc with
    | false =>
      have hN := hide (pnew_no sc _ w hc hm)
      have hD := hide (fun W (hX : Ext w W) => docNew_no sc _ W (Sl.ext hc hX) hm)
      clear hat hl hi hc
      go_enter Tryz.func3, Tryz.ntmps3
      go_wp2_with (first
        | (go_at_call 7; (with_reducible refine seq_gw hN.out ?_); intro g1)
        | (go_at_call 8; first | ((with_reducible refine seq_gw' (hD.out _ g1.grown) ?_); intro g2) | ((with_reducible refine seq_gw (hD.out _ g1.grown) ?_); intro g2))
        | (go_at_call 6; first | ((with_reducible refine seq_gw' (pastLive_c _) ?_); intro g3) | ((with_reducible refine seq_gw (pastLive_c _) ?_); intro g3))
        | (go_at_call 9; first | ((with_reducible refine seq_gw' (pcount_nil _) ?_); intro g4) | ((with_reducible refine seq_gw (pcount_nil _) ?_); intro g4)))
      go_returns
      exact ⟨by first | rfl | simp, g4.grown⟩
    | true =>
      have hsl : sc.length ≤ 1048576 := by have := (mayS_iff.1 hm).1.2; omega
      have hpl : (pms l).length ≤ 400 := by simp [pms]; omega
      have hrw := hide hl.2
      replace hat := hide hat
      have hN := hide (pnew_c sc _ w hc hm hsl)
      have hcw := hide (fun W (hX : Ext w W) => (Sl.ext hc hX : Cw W [] (.slice SA sc.length scap) sc))
      obtain ⟨B, hB⟩ : ∃ B, B = w.heap.size := ⟨_, rfl⟩
      rw [← hB] at hN
      replace hB := hide hB
      clear hl hc
      go_enter Tryz.func3, Tryz.ntmps3
      go_wp2_with (first
        | (go_at_call 7; refine hN.out.mono ?_; rintro ee w2 ⟨p, mb, rfl, hz2, hX2, hp, hmb⟩; replace hz2 := hide hz2; replace hX2 := hide hX2)
        | (go_at_call 8; refine (docNew_c B sc _ _ (hcw.out w2 hX2.out) hm (by rw [hB.out]; have := hX2.out.size; omega)).mono ?_; rintro ee w4 ⟨r, rfl, hS4, hX4⟩; have hz4 := hide (hz2.out.ext hX4); have hX14 := hide (hX2.out.trans hX4); replace hS4 := hide hS4; clear hX4))
      clear hN hz2
      go_loopg [9] l.length (fun gh iv wr => ∃ (k : Nat), iv = .int .i64 k ∧ k + gh = l.length ∧ Hid (TQ sc (pms l) B p mb r (.slice SA sc.length scap) k k wr) ∧ Hid (Ext w wr))
      case atStart => exact ⟨0, rfl, by omega, ⟨0, [], _, _, [], by omega, by simp, by simp, PInv.nil, hz4.out, by simp, hS4.out⟩, hX14⟩
      case round =>
        obtain ⟨k, rfl, hk, hTk, hXq⟩ := hrel
        clear hz4 hX14 hS4
        by_cases hkl : k < l.length
        · have hkI : (k : Int) < l.length := by omega
          obtain ⟨q, hq⟩ : ∃ q, l[k]? = some q := ⟨_, List.getElem?_eq_getElem hkl⟩
          obtain ⟨fb, fo, rfl, -, hbl, c0, c1, c2, c3', c4⟩ := hat.out k q hq
          have hpr := hrw.out q (List.mem_of_getElem? hq)
          have hqi := hi q (List.mem_of_getElem? hq)
          have hqm := pms_at hq
          obtain ⟨pv, ⟨pk, pi, pf, pt⟩, pr⟩ := q
          obtain ⟨QA, qc, eq⟩ := rw_val hpr
          simp only at eq hqm hqi
          subst eq
          have hbq : B ≤ wr.heap.size := by rw [hB.out]; exact hXq.out.size
          have hXw := hXq.out
          have hrv := hide (fun W' (hY : Ext w W') => (Sl.ext hpr hY : Rw W' [] (.slice QA pr.length qc) pr))
          obtain ⟨R, hR⟩ : ∃ R, R = resP sc (runP sc (0, []) ((pms l).take k)) ((pk, pi, pf, pt), pr) := ⟨_, rfl⟩
          obtain ⟨cs, cr, ⟨o1, o2⟩, n1, n2, hC⟩ : ∃ (cs : Nat) (cr : List Vl) (o : Int × Int) (n1 n2 : Int), chQ sc (runP sc (0, []) ((pms l).take k)) ((pk, pi, pf, pt), pr) = (cs, cr, o, (n1, n2)) := ⟨_, _, _, _, _, rfl⟩
          have htp := hide (take_t hTk.out hpl pk pi pf pt pr (.slice QA pr.length qc) hqm hqi (hrv.out _ hXw) hbq hmb hp hR hC)
          have htd := hide (fun W' (h5 : TQ sc (pms l) B p mb r (.slice SA sc.length scap) (k + 1) k W') (h7 : Ext w W') (h8 : B ≤ W'.heap.size) => doc_t h5 hpl pk pi pf pt pr (.slice QA pr.length qc) hqm (hcw.out _ h7) (hrv.out _ h7) h8 hR hC)
          have z0 := pcell_later hXw c0
          have z1 := pcell_later hXw c1
          have z2 := pcell_later hXw c2
          have z3 := pcell_later hXw c3'
          have z4 := pcell_later hXw c4
          have hfl : fb < w.heap.size := hbl
          haveI : In fb wr := ⟨Nat.lt_of_lt_of_le hbl hXw.size⟩
          clear hpr hqi hqm hq hTk hR hC
          have hXwh := hide hXw
          clear hXw
          go_wp2_with (first
            | (go_at_call 10; refine htp.out.mono ?_; rintro ee w5 ⟨CA, cc, rfl, hr5, hT5, hB5⟩; have hX5 := hide (show Ext w w5 from Below.trans hXq.out (by have h9 := hB5; rw [hB.out] at h9; exact h9)); have y0 := pcell_later hX5.out c0; have y1 := pcell_later hX5.out c1; have y2 := pcell_later hX5.out c2; have y3 := pcell_later hX5.out c3'; have y4 := pcell_later hX5.out c4; haveI : In fb w5 := ⟨Nat.lt_of_lt_of_le hfl hX5.out.size⟩; replace hT5 := hide hT5; replace hr5 := hide hr5; clear hB5)
            | (go_at_call 11; refine (htd.out _ (hT5.out.ext ((Ext.refl w5).alloc _)) (hX5.out.trans ((Ext.refl w5).alloc _)) (by rw [World.size_alloc, hB.out]; have := hX5.out.size; omega)).mono ?_; rintro ee w6 ⟨DA, dc, rfl, hr6, hT6, hB6, hO6, hW6⟩; have hX6 := hide (show Ext w w6 from Below.trans (hX5.out.trans ((Ext.refl w5).alloc _)) (by have h9 := hB6; rw [hB.out] at h9; exact h9)); have hO10 := hide (hO6 _ _ _ (Ob.new w5 39 [.int .i64 cs, .slice CA cr.length cc, .int .i64 o1, .int .i64 o2, .int .i64 n1, .int .i64 n2]) (by decide) (by decide) (by decide)); have hr10 := hide (hW6 _ _ (hr5.out.ext ((Ext.refl w5).alloc _))); replace hT6 := hide hT6; replace hr6 := hide hr6; clear hB6 hO6 hW6))
          have hO12 := hide (Ob.new w6 39 [.int .i64 cs, .slice DA cr.length dc, .int .i64 o1, .int .i64 o2, .int .i64 n1, .int .i64 n2])
          replace hO10 := hide (hO10.out.alloc (.cells #[.int .i64 cs, .slice DA cr.length dc, .int .i64 o1, .int .i64 o2, .int .i64 n1, .int .i64 n2] 39))
          replace hr10 := hide (hr10.out.ext ((Ext.refl w6).alloc (.cells #[.int .i64 cs, .slice DA cr.length dc, .int .i64 o1, .int .i64 o2, .int .i64 n1, .int .i64 n2] 39)))
          replace hr6 := hide (hr6.out.ext ((Ext.refl w6).alloc (.cells #[.int .i64 cs, .slice DA cr.length dc, .int .i64 o1, .int .i64 o2, .int .i64 n1, .int .i64 n2] 39)))
          replace hT6 := hide (hT6.out.ext ((Ext.refl w6).alloc (.cells #[.int .i64 cs, .slice DA cr.length dc, .int .i64 o1, .int .i64 o2, .int .i64 n1, .int .i64 n2] 39)))
          replace hX6 := hide (hX6.out.trans ((Ext.refl w6).alloc (.cells #[.int .i64 cs, .slice DA cr.length dc, .int .i64 o1, .int .i64 o2, .int .i64 n1, .int .i64 n2] 39)))
          simp only [List.toArray] at hO12
          generalize w6.alloc (.cells #[.int .i64 cs, .slice DA cr.length dc, .int .i64 o1, .int .i64 o2, .int .i64 n1, .int .i64 n2] 39) = W7 at *
          generalize w6.heap.size = b12 at *
          generalize w5.heap.size = b10 at *
          obtain ⟨c, N, H, hclk, hcnt, hknw, hcc, hrl, hHl, hhe, hdh⟩ := both hT6.out hpl
          replace hclk := hide hclk
          replace hcnt := hide hcnt
          replace hknw := hide hknw
          replace hhe := hide hhe
          replace hdh := hide hdh
          have x0 := hO10.out.cell 0 rfl
          have x1 := hO10.out.cell 1 rfl
          have x2 := hO10.out.cell 2 rfl
          have x3 := hO10.out.cell 3 rfl
          have x4 := hO10.out.cell 4 rfl
          have x5 := hO10.out.cell 5 rfl
          have u0 := hO12.out.cell 0 rfl
          have u1 := hO12.out.cell 1 rfl
          have u2 := hO12.out.cell 2 rfl
          have u3 := hO12.out.cell 3 rfl
          have u4 := hO12.out.cell 4 rfl
          have u5 := hO12.out.cell 5 rfl
          have b10l := hO10.out.lt
          have b12l := hO12.out.lt
          haveI : In b10 W7 := ⟨b10l⟩
          haveI : In b12 W7 := ⟨b12l⟩
          haveI : In r W7 := ⟨hrl⟩
          have hsm := hide (fun w' (hx' : Ext W7 w') => refSameChange_c (cs, cr, (o1, o2), n1, n2) _ _ w' (Sl.ext hr10.out.rw hx') (Sl.ext hr6.out.rw hx'))
          clear hO10 hO12 hr10 hr6 z0 z1 z2 z3 z4 y0 y1 y2 y3 y4 hr5 hT5 hX5 htp htd
          generalize cr.length = xl at *
          go_wp2_with fail
          refine wp_region_gw (by kernel_rfl) (by kernel_rfl) ?_
          repeat (go_big_quiet_step (first
            | (go_at_call 12; exact quiet_gw (hsm.out _ Gn.ext))
            | (go_at_call 13; exact quiet_gw (hclk.out _ Gn.ext))
            | (go_at_call 14; exact quiet_gw (hknw.out _ Gn.ext))
            | (go_at_call 9; exact quiet_gw (hcnt.out _ Gn.ext))))
          refine wpQuiet_nil ?_
          intro g4
          have hX8 := hide (show Ext W7 g4.val from g4.grown)
          go_wp2_with (first
            | (go_at_call 16; refine (hhe.out _ hX8.out).mono ?_; rintro ee w9 ⟨v9, M9, rfl, ho9, hM9, hX9⟩; obtain ⟨A9, c9, e9⟩ := ho9.form; subst e9; replace ho9 := hide ho9; replace hM9 := hide hM9; replace hX9 := hide (hX8.out.trans hX9))
            | (go_at_call 17; refine (hdh.out _ hX9.out).mono ?_; rintro ee w1 ⟨v1, M1, rfl, ho1, hM1, hX1⟩; obtain ⟨A1, e1c, e1⟩ := ho1.form; subst e1; have hal := hide (alike_c w1 (ho9.out.ext hX1) ho1 (hM9.out.trans hM1.symm) (by have h9 := congrArg List.length hM9.out; rw [List.length_map] at h9; omega)); replace hX1 := hide (hX9.out.trans hX1); clear ho1 hM1)
            | (go_at_call 15; first | ((with_reducible refine seq_gw' hal.out ?_); intro g5) | ((with_reducible refine seq_gw hal.out ?_); intro g5)))
          go_roundg (l.length - (k + 1))
          case measure => omega
          case rel => exact ⟨k + 1, by go_num, by omega, hT6.out.ext (hX1.out.trans g5.grown), hX6.out.trans (hX1.out.trans g5.grown)⟩
        · obtain rfl : k = l.length := by omega
          have hge : ¬ (l.length : Int) < l.length := by omega
          obtain ⟨n, L, ev, gv, D, -, -, -, -, hPz, -, -⟩ := hTk.out
          have hsch := hide (fun W (hX : Ext wr W) => pschema_c W (hPz.ext hX) hsl)
          have hXw := hide hXq.out
          clear hPz hTk hat hi
          go_wp2_with (first
            | (go_at_call 6; first | ((with_reducible refine seq_gw' (pastLive_c _) ?_); intro g3) | ((with_reducible refine seq_gw (pastLive_c _) ?_); intro g3))
            | (go_at_call 19; refine (hsch.out _ g3.grown).mono ?_; rintro ee w7 ⟨v7, rfl, hc7, hX7⟩; obtain ⟨A7, c7, e7, -⟩ := cw_form hc7; subst e7; have hsm := hide (refSameS_c hc7 (hcw.out _ (hXw.out.trans (g3.grown.trans hX7)))); rw [eqP_dec, decide_eq_true rfl] at hsm; replace hX7 := hide (g3.grown.trans hX7); clear hc7)
            | (go_at_call 18; first | ((with_reducible refine seq_gw' hsm.out ?_); intro g4) | ((with_reducible refine seq_gw hsm.out ?_); intro g4)))
          go_returns
          exact ⟨by first | rfl | simp, hXw.out.trans (hX7.out.trans g4.grown)⟩
  · have d1 : (200 : Int) < l.length := by omega
    clear hl hi hat hc
    go_enter Tryz.func3, Tryz.ntmps3
    go_wp2_with (go_at_call 6; (with_reducible refine seq_gw (pastLive_c _) ?_); intro g0)
    go_returns
    exact ⟨by first | rfl | simp, g0.grown⟩
end Tak
end Go.Proofs.YtajelkkiijdegaaGreat
set_option linter.unusedVariables false
set_option linter.unusedSimpArgs false
namespace Go.Proofs.YtajelkkiijdegaaGreat
open Go.RowKit Go.Deep Go.ChangeShapes

section
variable {H : Type} {enc : TypeId × Value → H} {P : Program} {w : World} {base fuel : Nat} {held : Bool}
theorem cl_at (l : List Cl) (j : Nat) (u : Value) (h : (cl l)[j]? = some u) : ∃ i a k, l[i]? = some a ∧ j = i * 2 + k ∧ (cc a)[k]? = some u := by
  have hj : j < l.length * 2 := by
    rcases Nat.lt_or_ge j (l.length * 2) with h1 | h1
    · exact h1
    · rw [List.getElem?_eq_none (by rw [cl_length]; exact h1)] at h; cases h
  have hi : j / 2 < l.length := by omega
  refine ⟨j / 2, l[j / 2], j % 2, List.getElem?_eq_getElem hi, by omega, ?_⟩
  have hk : j % 2 = 0 ∨ j % 2 = 1 := by omega
  obtain ⟨v, hv⟩ : ∃ v, (cc l[j / 2])[j % 2]? = some v := by
    rcases hk with e | e <;> rw [e] <;> exact ⟨_, rfl⟩
  have := cl_get l (j / 2) _ (List.getElem?_eq_getElem hi) _ v hv
  rw [show j / 2 * 2 + j % 2 = j by omega, h] at this
  rw [hv, this]
theorem open_cols {t e : TypeId} {f0 f1 : Field} {v : Value} {x : DataW H × List MemPlace} (ht : P.underlying t = some (.slice e)) (he : P.underlying e = some (.struct #[f0, f1]))
    (ce : P.cellsOf e = 2) (o0 : f0.offset = 0) (o1 : f1.offset = 1) (c0 : P.cellsOf f0.type = 1) (c1 : P.cellsOf f1.type = 1)
    (u0 : P.underlying f0.type = some .string) (u1 : P.underlying f1.type = some (.int .i64))
    (h : DataW.trod enc P w base (fun _ => true) held fuel t [v] = some x) : ∃ l : List Cl, l.length = sliceLen x.1 ∧ Cw w [] v l := by
  rcases open_slice ht h with ⟨h1, rfl⟩ | ⟨a, len, cap, m, n, D, Pl, h1, _, hl, hm, hmm, rfl, hel⟩
  · obtain rfl : v = .slice none 0 0 := by simpa using h1
    exact ⟨[], rfl, Sl.nil _ _ _⟩
  · obtain rfl : v = .slice (some a) len cap := by simpa using h1
    simp only [if_true] at hmm
    have each : ∀ i, i < len → ∃ p : Cl, ∀ k u, (cc p)[k]? = some u → w.cell? ((a.add (i * 2)).add k) = some u := by
      intro i hi
      obtain ⟨cs, hc, htr⟩ := hel i (by omega)
      rw [ce] at hc
      obtain ⟨_, hlen, hat⟩ := World.cells?_some hc
      obtain ⟨xs, k, _, _, _, hxl, hf⟩ := DataW.trod_struct he htr
      match cs, hlen with
      | [w0, w1], _ =>
        match xs, hxl with
        | [y0, y1], _ =>
          have g0 := hf 0 f0 rfl
          have g1 := hf 1 f1 rfl
          rw [o0, c0] at g0
          rw [o1, c1] at g1
          obtain ⟨z0, q0, _, _⟩ := DataW.trod_string u0 g0
          obtain ⟨z1, q1, _, _⟩ := DataW.trod_int u1 g1
          simp at q0 q1
          subst q0; subst q1
          refine ⟨(z0, z1), fun k u hu => ?_⟩
          have hk : k < 2 := by simpa [cc] using (List.getElem?_eq_some_iff.1 hu).1
          rw [hat k hk]
          exact hu
    obtain ⟨p, hp⟩ := choose_lt (α := Cl) (p := fun i p => ∀ k u, (cc p)[k]? = some u → w.cell? ((a.add (i * 2)).add k) = some u) each
    refine ⟨(List.range len).map p, by simp [sliceLen], ⟨some a, cap, by simp, by simpa using hl, hm, by rw [cl_length], ?_⟩⟩
    by_cases h0 : len = 0
    · left; subst h0; rfl
    right
    have hz := hp 0 (by omega) 0 _ rfl
    obtain ⟨b, o, rfl⟩ := addr_plain (i := 0) (a := a) (by
      have e0 : (a.add (0 * 2)).add 0 = a.add 0 := by rw [Nat.zero_mul]; exact (show (a.add 0).add 0 = a.add (0 + 0) from Go.Deep.add_add ..)
      rw [e0] at hz; exact hz) rfl
    refine ⟨b, o, rfl, by simp, fun j u hu => ?_⟩
    obtain ⟨i, q, k, hq, rfl, hk⟩ := cl_at _ j u hu
    have hi : i < len := by
      rcases Nat.lt_or_ge i len with h | h
      · exact h
      · rw [List.getElem?_eq_none (by simpa using h)] at hq; cases hq
    have hq' : q = p i := by simpa [hi] using hq.symm
    subst hq'
    have := hp i hi k u hk
    rw [add_plain, add_plain, Nat.add_assoc] at this
    exact this
end
end Go.Proofs.YtajelkkiijdegaaGreat
namespace Go.Proofs.YtajelkkiijdegaaGreat.Facts.pastTakes
open Go.ChangeShapes Go.WideShapes Go.ChangeAt Go.RowKit
theorem c1 : (Rows.pastTakesRow.inPlace == Tryz.prog.inPlace 3) = true := by kernel_rfl
theorem c2 : (Rows.pastTakesRow.unfollowed == Tryz.prog.unfollowed 3) = true := by kernel_rfl
theorem c3 : (Rows.pastTakesRow.recurses == Tryz.prog.recurses 3) = true := by kernel_rfl
theorem c4 : (Rows.pastTakesRow.named == Tryz.prog.varsNamed 3) = true := by kernel_rfl
theorem c5 : laidOutB Tryz.prog = true := by kernel_rfl
theorem c6 : mapsRowed Tryz.prog = true := by kernel_rfl
theorem closed : joinedFacts Tryz.prog 3 Tryz.f3 Rows.pastTakesSpec Rows.pastTakesRow = true := by
  unfold joinedFacts
  rw [c1, c2, c3, c4, c5, c6]
  kernel_rfl
end Go.Proofs.YtajelkkiijdegaaGreat.Facts.pastTakes
