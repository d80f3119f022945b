/-
  A helper of ours: no claim of its own. What comes in, as lists: edges.
-/
import Derived.Test.YtjdbjnpomndfjaaHopF1
import Derived.Test.YtjdbjnpomndfjaaSnaN
import Derived.Test.YtjdbjnpomndfjaaSnaS
import Derived.Test.YtjdbjnpomndfjaaStepA
import Derived.Test.YtjdbjnpomndfjaaRowS
import Derived.Test.YtjdbjnpomndfjaaIdx
set_option linter.unusedVariables false
set_option linter.unusedSimpArgs false
namespace Go.Proofs.Ytjdbjnpomndfjaa
open Go.RowKit
attribute [local go_sem] GW.cell GW.frozen In.eq_true In.le_true In.ne In.ne' In.ne_add In.ne_add' In.lt_add Upto.le_true Upto.le_add Upto.lt_add
theorem hopV_lo (s h t : Int) (hE : hopE s h t = 0) : 0 ≤ hopV s h t ∧ hopV s h t ≤ 1125899906842624 := by
  unfold hopE at hE
  unfold hopV
  split at hE
  case isFalse => exact absurd hE (by decide)
  rename_i h1
  split at hE
  case isFalse => exact absurd hE (by decide)
  rename_i h2
  rw [if_pos ⟨h1.1, h1.2, h2⟩]
  split
  · omega
  · exact hbeg_lo (hlen_iff.1 h1.2).1 _
set_option maxHeartbeats 16000000 in
set_option maxRecDepth 100000 in
theorem hopForgets_walk (L : List Ve) (s hp t r : Int) (v : Value) (w : World) (hL : Ew w [] v L) : Calls Try.prog 10 #[v, .int .i64 s, .int .i64 hp, .int .i64 t, .int .i64 r] w fun e w' => e = .returned (.bool true) ∧ Ext w w' := by
  have hl := hide hopLive_c
  have ho := hide (fun w => hopen_c s hp t w)
  have hlo := hopV_lo s hp t
  obtain ⟨V, hV⟩ : ∃ V, V = hopV s hp t := ⟨_, rfl⟩
  obtain ⟨E, hE⟩ : ∃ E, E = hopE s hp t := ⟨_, rfl⟩
  rw [← hV, ← hE] at ho hlo
  clear hV hE
  have hre := hide (fun w' (hX : Ext w w') => edgeRest_c L V v w' (hL.ext hX))
  have htb := hide (fun w' (hX : Ext w w') => edgeTable_c L v w' (hL.ext hX))
  have hp1 := hide (fun w' (hX : Ext w w') => hpParts_c L s hp V r v w' (hL.ext hX))
  obtain ⟨A, cap, rfl, hlc, hlm, -⟩ := ew_form hL
  unfold maxLen at hlm
  clear hL
  by_cases h1 : E = 0
  case neg =>
    have hb : (E != 0) = true := by simpa using h1
    clear hlo
    go_enter Try.func10, Try.ntmps10
    go_wp2_with (first | (go_at_call 24; (with_reducible refine seq_gw (ho.out _) ?_); intro g1; have hX1 := hide g1.grown) | (go_at_call 26; (with_reducible refine seq_gw (hl.out _) ?_); intro g9))
    go_returns
    exact ⟨by first | rfl | simp, hX1.out.trans g9.grown⟩
  subst h1
  obtain ⟨l1, l2⟩ := hlo rfl
  by_cases h2 : t < V
  · clear l1 l2
    go_enter Try.func10, Try.ntmps10
    go_wp2_with (first | (go_at_call 24; (with_reducible refine seq_gw (ho.out _) ?_); intro g1; have hX1 := hide g1.grown) | (go_at_call 26; (with_reducible refine seq_gw (hl.out _) ?_); intro g9))
    go_returns
    exact ⟨by first | rfl | simp, hX1.out.trans g9.grown⟩
  obtain ⟨F, hF⟩ : ∃ F, F = mpE (reOp V) (eds L) := ⟨_, rfl⟩
  rw [← hF] at hre
  by_cases h3 : F = 0
  case neg =>
    have hb : (F != 0) = true := by simpa using h3
    replace hF := hide hF
    clear l1 l2
    go_enter Try.func10, Try.ntmps10
    go_wp2_with (first | (go_at_call 24; (with_reducible refine seq_gw (ho.out _) ?_); intro g1; have hX1 := hide g1.grown) | (go_at_call 34; refine (hre.out _ hX1.out).mono ?_; rintro ee w2 ⟨v2, N2, rfl, hN2, ho2, hY⟩; have hX2 := hide (hX1.out.trans hY); have hs2 := hide ho2.ew; have hN2' := hide hN2; obtain ⟨A2, c2, q2⟩ := own_form ho2.1; subst q2; clear ho2 hY hN2) | (go_at_call 26; (with_reducible refine seq_gw (hl.out _) ?_); intro g9))
    go_returns
    exact ⟨by first | rfl | simp, hX2.out.trans g9.grown⟩
  subst h3
  by_cases h4 : V = 1125899906842624
  · subst h4
    replace hF := hide hF
    clear l1 l2
    go_enter Try.func10, Try.ntmps10
    go_wp2_with (first | (go_at_call 24; (with_reducible refine seq_gw (ho.out _) ?_); intro g1; have hX1 := hide g1.grown) | (go_at_call 34; refine (hre.out _ hX1.out).mono ?_; rintro ee w2 ⟨v2, N2, rfl, hN2, ho2, hY⟩; have hX2 := hide (hX1.out.trans hY); have hs2 := hide ho2.ew; have hN2' := hide hN2; obtain ⟨A2, c2, q2⟩ := own_form ho2.1; subst q2; clear ho2 hY hN2) | (go_at_call 26; (with_reducible refine seq_gw (hl.out _) ?_); intro g9))
    go_returns
    exact ⟨by first | rfl | simp, hX2.out.trans g9.grown⟩
  have hbV : (V == 1125899906842624) = false := by simpa using h4
  cases h5 : tabE (eds L)
  · rw [h5] at htb
    replace hF := hide hF
    clear l1 l2
    go_enter Try.func10, Try.ntmps10
    go_wp2_with (first | (go_at_call 24; (with_reducible refine seq_gw (ho.out _) ?_); intro g1; have hX1 := hide g1.grown) | (go_at_call 34; refine (hre.out _ hX1.out).mono ?_; rintro ee w2 ⟨v2, N2, rfl, hN2, ho2, hY⟩; have hX2 := hide (hX1.out.trans hY); have hs2 := hide ho2.ew; have hN2' := hide hN2; obtain ⟨A2, c2, q2⟩ := own_form ho2.1; subst q2; clear ho2 hY hN2) | (go_at_call 35; (with_reducible refine seq_gw (htb.out _ hX2.out) ?_); intro g3; have hX3 := hide (hX2.out.trans g3.grown)) | (go_at_call 26; (with_reducible refine seq_gw (hl.out _) ?_); intro g9))
    go_returns
    exact ⟨by first | rfl | simp, hX3.out.trans g9.grown⟩
  rw [h5] at htb
  have hm1 : mayE (eds L) = true := (mp_zero hF.symm).1
  obtain ⟨q1, q2, q3⟩ := rest_high l1 (by omega) hF.symm
  have hk := hpE_high (s := s) (hp := hp) (R := r) hm1 q1 h5 (q2 h5) (fun a u hu => (q3 a u hu).symm)
  have hk1 := hide hk.1.symm
  have hk2 := hide hk.2.symm
  obtain ⟨GE, hGE⟩ : ∃ GE, GE = hpE (eds L) s hp V r := ⟨_, rfl⟩
  obtain ⟨GL, hGL⟩ : ∃ GL, GL = hpL (eds L) s hp V r := ⟨_, rfl⟩
  rw [← hGE, ← hGL] at hp1
  replace hk1 : Hid (hpE (mpR (reOp V) (eds L)) s hp V r = GE) := by rw [hGE]; exact hk1
  replace hk2 : Hid (hpL (mpR (reOp V) (eds L)) s hp V r = GL) := by rw [hGL]; exact hk2
  replace hF := hide hF
  replace hGE := hide hGE
  replace hGL := hide hGL
  clear l1 l2 hm1 q1 q2 q3 hk h5
  go_enter Try.func10, Try.ntmps10
  go_wp2_with (first | (go_at_call 24; (with_reducible refine seq_gw (ho.out _) ?_); intro g1; have hX1 := hide g1.grown) | (go_at_call 34; refine (hre.out _ hX1.out).mono ?_; rintro ee w2 ⟨v2, N2, rfl, hN2, ho2, hY⟩; have hX2 := hide (hX1.out.trans hY); have hs2 := hide ho2.ew; have hN2' := hide hN2; obtain ⟨A2, c2, q2⟩ := own_form ho2.1; subst q2; clear ho2 hY hN2) | (go_at_call 35; (with_reducible refine seq_gw (htb.out _ hX2.out) ?_); intro g3; have hX3 := hide (hX2.out.trans g3.grown)) | (go_at_call 32; first | ((with_reducible refine (hp1.out _ hX3.out).mono ?_); rintro ee w4 ⟨v4, P4, rfl, hP4, ho4, hY⟩; have hX4 := hide (hX3.out.trans hY); have hQ4 := hide hP4; have hO4 := hide ho4; have hp2 := hpParts_c N2 s hp V r _ w4 (hs2.out.ext (g3.grown.trans hY)); rw [hN2'.out, hk1.out, hk2.out] at hp2; replace hp2 := hide hp2; obtain ⟨A4, c4, q4⟩ := ho4.form; subst q4; clear ho4 hY hP4) | ((with_reducible refine hp2.out.mono ?_); rintro ee w5 ⟨v5, P5, rfl, hP5, ho5, hY⟩; have hX5 := hide (hX4.out.trans hY); have hQ5 := hide hP5; have hO5 := hide ho5; have hO45 := hide (hO4.out.ext hY); obtain ⟨A5, c5, q5⟩ := ho5.form; subst q5; clear ho5 hY hP5)) | (go_at_call 26; (with_reducible refine seq_gw (hl.out _) ?_); intro g9) | (go_at_call 21; (with_reducible refine seq_gw (refSameParts_c P4 P5 (hQ4.out.trans hQ5.out.symm) _ _ _ (hO45.out.ext g9.grown).pw (hO5.out.ext g9.grown).pw) ?_); intro g10))
  go_returns
  exact ⟨by first | rfl | simp, (hX5.out.trans g9.grown).trans g10.grown⟩
end Go.Proofs.Ytjdbjnpomndfjaa
set_option linter.unusedVariables false
set_option linter.unusedSimpArgs false
namespace Go.Proofs.Ytjdbjnpomndfjaa
open Go.RowKit Go.Deep Go.ChangeShapes

section
variable {H : Type} {enc : TypeId × Value → H} {P : Program} {w : World} {base fuel : Nat} {held : Bool}
theorem rc_at (l : List Vl) (j : Nat) (u : Value) (h : (rc l)[j]? = some u) : ∃ i a k, l[i]? = some a ∧ j = i * 3 + k ∧ (vc a)[k]? = some u := by
  have hj : j < l.length * 3 := by
    rcases Nat.lt_or_ge j (l.length * 3) with h1 | h1
    · exact h1
    · rw [List.getElem?_eq_none (by rw [rc_length]; exact h1)] at h; cases h
  have hi : j / 3 < l.length := by omega
  refine ⟨j / 3, l[j / 3], j % 3, List.getElem?_eq_getElem hi, by omega, ?_⟩
  have hk : j % 3 = 0 ∨ j % 3 = 1 ∨ j % 3 = 2 := by omega
  obtain ⟨v, hv⟩ : ∃ v, (vc l[j / 3])[j % 3]? = some v := by
    rcases hk with e | e | e <;> rw [e] <;> exact ⟨_, rfl⟩
  have := rc_get l (j / 3) _ (List.getElem?_eq_getElem hi) _ v hv
  rw [show j / 3 * 3 + j % 3 = j by omega, h] at this
  rw [hv, this]
theorem open_row {t e : TypeId} {f0 f1 f2 : Field} {v : Value} {x : DataW H × List MemPlace} (ht : P.underlying t = some (.slice e)) (he : P.underlying e = some (.struct #[f0, f1, f2]))
    (ce : P.cellsOf e = 3) (o0 : f0.offset = 0) (o1 : f1.offset = 1) (o2 : f2.offset = 2) (c0 : P.cellsOf f0.type = 1) (c1 : P.cellsOf f1.type = 1) (c2 : P.cellsOf f2.type = 1)
    (u0 : P.underlying f0.type = some (.int .i64)) (u1 : P.underlying f1.type = some (.int .i64)) (u2 : P.underlying f2.type = some .string)
    (h : DataW.trod enc P w base (fun _ => true) held fuel t [v] = some x) : ∃ l : List Vl, l.length = sliceLen x.1 ∧ Rw w [] v l ∧ ∀ a ∈ l, inI a.2.1 := by
  rcases open_slice ht h with ⟨h1, rfl⟩ | ⟨a, len, cap, m, n, D, Pl, h1, _, hl, hm, hmm, rfl, hel⟩
  · obtain rfl : v = .slice none 0 0 := by simpa using h1
    exact ⟨[], rfl, Sl.nil _ _ _, by simp⟩
  · obtain rfl : v = .slice (some a) len cap := by simpa using h1
    simp only [if_true] at hmm
    have each : ∀ i, i < len → ∃ p : Vl, (∀ k u, (vc p)[k]? = some u → w.cell? ((a.add (i * 3)).add k) = some u) ∧ inI p.2.1 := by
      intro i hi
      obtain ⟨cs, hc, htr⟩ := hel i (by omega)
      rw [ce] at hc
      obtain ⟨_, hlen, hat⟩ := World.cells?_some hc
      obtain ⟨xs, k, _, _, _, hxl, hf⟩ := DataW.trod_struct he htr
      match cs, hlen with
      | [w0, w1, w2], _ =>
        match xs, hxl with
        | [y0, y1, y2], _ =>
          have g0 := hf 0 f0 rfl
          have g1 := hf 1 f1 rfl
          have g2 := hf 2 f2 rfl
          rw [o0, c0] at g0
          rw [o1, c1] at g1
          rw [o2, c2] at g2
          obtain ⟨z0, q0, _, _⟩ := DataW.trod_int u0 g0
          obtain ⟨z1, q1, _, k1⟩ := DataW.trod_int u1 g1
          obtain ⟨z2, q2, _, _⟩ := DataW.trod_string u2 g2
          simp at q0 q1 q2
          subst q0; subst q1; subst q2
          refine ⟨(z0, z1, z2), fun k u hu => ?_, wf_i64 k1⟩
          have hk : k < 3 := by simpa [vc] using (List.getElem?_eq_some_iff.1 hu).1
          rw [hat k hk]
          exact hu
    obtain ⟨p, hp⟩ := choose_lt (α := Vl) (p := fun i p => (∀ k u, (vc p)[k]? = some u → w.cell? ((a.add (i * 3)).add k) = some u) ∧ inI p.2.1) each
    refine ⟨(List.range len).map p, by simp [sliceLen], ⟨some a, cap, by simp, by simpa using hl, hm, by rw [rc_length], ?_⟩, ?_⟩
    · by_cases h0 : len = 0
      · left; subst h0; rfl
      right
      have hz := (hp 0 (by omega)).1 0 _ rfl
      obtain ⟨b, o, rfl⟩ := addr_plain (i := 0) (a := a) (by
        have e0 : (a.add (0 * 3)).add 0 = a.add 0 := by rw [Nat.zero_mul]; exact (show (a.add 0).add 0 = a.add (0 + 0) from Go.Deep.add_add ..)
        rw [e0] at hz; exact hz) rfl
      refine ⟨b, o, rfl, by simp, fun j u hu => ?_⟩
      obtain ⟨i, q, k, hq, rfl, hk⟩ := rc_at _ j u hu
      have hi : i < len := by
        rcases Nat.lt_or_ge i len with h | h
        · exact h
        · rw [List.getElem?_eq_none (by simpa using h)] at hq; cases hq
      have hq' : q = p i := by simpa [hi] using hq.symm
      subst hq'
      have := (hp i hi).1 k u hk
      rw [add_plain, add_plain, Nat.add_assoc] at this
      exact this
    · intro q hq
      simp only [List.mem_map, List.mem_range] at hq
      obtain ⟨i, hi, rfl⟩ := hq
      exact (hp i hi).2
theorem sized_elems {ts : List TypeId} {ds : List (DataW H)} (h : (DataW.weightsEach P ts ds).all (· ≤ reachBytes) = true) {j : Nat} {t e : TypeId} {d : DataW H} {b : Nat} (ht : ts[j]? = some t) (hd : ds[j]? = some d) (hu : P.underlying t = some (.slice e)) (hb : P.bytesOf e = b) :
    sliceLen d * b ≤ 140737488351232 := by
  cases d with
  | slice elems spare =>
    have h1 := sized_slice h ht hd hu
    rw [hb] at h1
    have h2 := Nat.mul_le_mul_right b (Nat.le_add_right elems.length spare.length)
    simp only [sliceLen, reachBytes] at *
    omega
  | _ => simp [sliceLen]
end
end Go.Proofs.Ytjdbjnpomndfjaa
set_option linter.unusedVariables false
set_option linter.unusedSimpArgs false
namespace Go.Proofs.Ytjdbjnpomndfjaa
open Go.RowKit Go.Deep Go.ChangeShapes

section
variable {H : Type} {enc : TypeId × Value → H} {P : Program} {w : World} {base fuel : Nat} {held : Bool}
theorem ec_at (l : List Ve) (j : Nat) (u : Value) (h : (ec l)[j]? = some u) : ∃ i a k, l[i]? = some a ∧ j = i * 3 + k ∧ (ec1 a)[k]? = some u := by
  have hj : j < l.length * 3 := by
    rcases Nat.lt_or_ge j (l.length * 3) with h1 | h1
    · exact h1
    · rw [List.getElem?_eq_none (by rw [ec_length]; exact h1)] at h; cases h
  have hi : j / 3 < l.length := by omega
  refine ⟨j / 3, l[j / 3], j % 3, List.getElem?_eq_getElem hi, by omega, ?_⟩
  have hk : j % 3 = 0 ∨ j % 3 = 1 ∨ j % 3 = 2 := by omega
  obtain ⟨v, hv⟩ : ∃ v, (ec1 l[j / 3])[j % 3]? = some v := by
    rcases hk with e | e | e <;> rw [e] <;> exact ⟨_, rfl⟩
  have := ec_get l (j / 3) _ (List.getElem?_eq_getElem hi) _ v hv
  rw [show j / 3 * 3 + j % 3 = j by omega, h] at this
  rw [hv, this]
theorem open_edges {t e r : TypeId} {f0 f1 f2 g0 g1 g2 : Field} {v : Value} {x : DataW H × List MemPlace} (ht : P.underlying t = some (.slice e)) (he : P.underlying e = some (.struct #[f0, f1, f2]))
    (ce : P.cellsOf e = 3) (o0 : f0.offset = 0) (o1 : f1.offset = 1) (o2 : f2.offset = 2) (c0 : P.cellsOf f0.type = 1) (c1 : P.cellsOf f1.type = 1) (c2 : P.cellsOf f2.type = 1)
    (u0 : P.underlying f0.type = some (.slice r)) (u1 : P.underlying f1.type = some (.int .i64)) (u2 : P.underlying f2.type = some (.int .i64))
    (hr : P.underlying r = some (.struct #[g0, g1, g2])) (cr : P.cellsOf r = 3) (p0 : g0.offset = 0) (p1 : g1.offset = 1) (p2 : g2.offset = 2) (d0 : P.cellsOf g0.type = 1) (d1 : P.cellsOf g1.type = 1) (d2 : P.cellsOf g2.type = 1)
    (y0 : P.underlying g0.type = some (.int .i64)) (y1 : P.underlying g1.type = some (.int .i64)) (y2 : P.underlying g2.type = some .string)
    (h : DataW.trod enc P w base (fun _ => true) held fuel t [v] = some x) : ∃ L : List Ve, L.length = sliceLen x.1 ∧ Ew w [] v L := by
  rcases open_slice ht h with ⟨h1, rfl⟩ | ⟨a, len, cap, m, n, D, Pl, h1, _, hl, hm, hmm, rfl, hel⟩
  · obtain rfl : v = .slice none 0 0 := by simpa using h1
    exact ⟨[], rfl, Sl.nil _ _ _, by simp⟩
  · obtain rfl : v = .slice (some a) len cap := by simpa using h1
    simp only [if_true] at hmm
    have each : ∀ i, i < len → ∃ p : Ve, (∀ k u, (ec1 p)[k]? = some u → w.cell? ((a.add (i * 3)).add k) = some u) ∧ Rw w [] p.1 p.2.1 := by
      intro i hi
      obtain ⟨cs, hc, htr⟩ := hel i (by omega)
      rw [ce] at hc
      obtain ⟨_, hlen, hat⟩ := World.cells?_some hc
      obtain ⟨xs, k, _, _, _, hxl, hf⟩ := DataW.trod_struct he htr
      match cs, hlen with
      | [w0, w1, w2], _ =>
        match xs, hxl with
        | [z0, z1, z2], _ =>
          have q0 := hf 0 f0 rfl
          have q1 := hf 1 f1 rfl
          have q2 := hf 2 f2 rfl
          rw [o0, c0] at q0
          rw [o1, c1] at q1
          rw [o2, c2] at q2
          obtain ⟨l, _, hrl, _⟩ := open_row u0 hr cr p0 p1 p2 d0 d1 d2 y0 y1 y2 (show DataW.trod enc P w base (fun _ => true) held k f0.type [w0] = some _ from by simpa using q0)
          obtain ⟨a1, e1, _, _⟩ := DataW.trod_int u1 q1
          obtain ⟨a2, e2, _, _⟩ := DataW.trod_int u2 q2
          simp at e1 e2
          subst e1; subst e2
          refine ⟨(w0, l, (a1, a2)), fun k u hu => ?_, hrl⟩
          have hk : k < 3 := by simpa [ec1] using (List.getElem?_eq_some_iff.1 hu).1
          rw [hat k hk]
          exact hu
    obtain ⟨p, hp⟩ := choose_lt (α := Ve) (p := fun i p => (∀ k u, (ec1 p)[k]? = some u → w.cell? ((a.add (i * 3)).add k) = some u) ∧ Rw w [] p.1 p.2.1) each
    refine ⟨(List.range len).map p, by simp [sliceLen], ⟨some a, cap, by simp, by simpa using hl, hm, by rw [ec_length], ?_⟩, ?_⟩
    · by_cases h0 : len = 0
      · left; subst h0; rfl
      right
      have hz := (hp 0 (by omega)).1 0 _ rfl
      obtain ⟨b, o, rfl⟩ := addr_plain (i := 0) (a := a) (by
        have e0 : (a.add (0 * 3)).add 0 = a.add 0 := by rw [Nat.zero_mul]; exact (show (a.add 0).add 0 = a.add (0 + 0) from Go.Deep.add_add ..)
        rw [e0] at hz; exact hz) rfl
      refine ⟨b, o, rfl, by simp, fun j u hu => ?_⟩
      obtain ⟨i, q, k, hq, rfl, hk⟩ := ec_at _ j u hu
      have hi : i < len := by
        rcases Nat.lt_or_ge i len with h | h
        · exact h
        · rw [List.getElem?_eq_none (by simpa using h)] at hq; cases hq
      have hq' : q = p i := by simpa [hi] using hq.symm
      subst hq'
      have := (hp i hi).1 k u hk
      rw [add_plain, add_plain, Nat.add_assoc] at this
      exact this
    · intro q hq
      obtain ⟨i, hi, rfl⟩ := List.mem_map.1 hq
      exact (hp i (List.mem_range.1 hi)).2
end
end Go.Proofs.Ytjdbjnpomndfjaa
