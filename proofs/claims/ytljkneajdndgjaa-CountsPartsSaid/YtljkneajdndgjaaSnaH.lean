/-
  A helper of ours: no claim of its own. Layer 27 (snap): the snapshots by the document; and the walk of the law SnapParts.
-/
import Derived.Test.YtljkneajdndgjaaEdgQ
import Derived.Test.YtljkneajdndgjaaCouU
import Derived.Test.YtljkneajdndgjaaIdx
import Derived.Test.YtljkneajdndgjaaRowS
import Derived.Test.YtljkneajdndgjaaHopS
import Derived.Test.YtljkneajdndgjaaRowC
import Derived.Test.YtljkneajdndgjaaSnaA
import Derived.Test.YtljkneajdndgjaaEdgRo
import Derived.Test.YtljkneajdndgjaaEdgJ
import Derived.Test.YtljkneajdndgjaaStepC
set_option linter.unusedVariables false
set_option linter.unusedSimpArgs false
namespace Go.Proofs.Ytljkneajdndgjaa
open Go.RowKit
attribute [local go_sem] GW.cell GW.frozen In.eq_true In.le_true In.ne In.ne' In.ne_add In.ne_add' In.lt_add Upto.le_true Upto.le_add Upto.lt_add
set_option maxHeartbeats 2000000 in
theorem cnFew_c (L : List Ve) (v : Value) (w : World) (hC : Ew w [] v L) : Calls Try.prog 7 #[v] w fun e w' => e = .returned (.bool (decide (L.length ≤ 60))) ∧ Ext w w' := by
  obtain ⟨A, cap, rfl, hlc, hlm, -⟩ := ew_form hC
  unfold maxLen at hlm
  clear hC
  by_cases h : L.length ≤ 60
  all_goals
    go_enter Try.func7, Try.ntmps7
    go_wp2_with fail
    go_returns
    exact ⟨by first | rfl | (simp [h]; done) | (simp; omega), Ext.refl _⟩
set_option maxHeartbeats 8000000 in
set_option maxRecDepth 100000 in
theorem countsStarts_walk (L : List Ve) (n t : Int) (v : Value) (w : World) (hC : Ew w [] v L) : Calls Try.prog 3 #[v, .int .i64 n, .int .i64 t] w fun e w' => e = .returned (.bool true) ∧ Ext w w' := by
  have hl := hide (fun w => cntLive_c w)
  have hfw := hide (fun w' (hX : Ext w w') => cnFew_c L v w' (hC.ext hX))
  have hcu := hide (fun w' (hX : Ext w w') => cstarts_c L v w' (hC.ext hX))
  have hre := hide (fun (h : L.length ≤ 60) w' (hX : Ext w w') => refStarts_c L (by omega) v w' (hC.ext hX))
  have hco := hide (fun w' (hX : Ext w w') => copen_c L n t v w' (hC.ext hX))
  have hro := hide (fun (h : L.length ≤ 60) w' (hX : Ext w w') => refOpen_c L (by omega) n t v w' (hC.ext hX))
  have hcl : L.length ≤ 60 → (csL (eds L)).length ≤ 60 := fun h => by
    unfold csL
    split
    · rename_i h0
      have hm : mayE (eds L) = true := by
        unfold csE at h0
        split at h0
        · assumption
        · exact absurd h0 (by decide)
      have := stP_len (eds L)
      rw [stP_eq hm, show (eds L).length = L.length from List.length_map _] at this
      omega
    · simp
  obtain ⟨A, cap, rfl, hlc, hlm, -⟩ := ew_form hC
  unfold maxLen at hlm
  clear hC
  obtain ⟨E, hE⟩ : ∃ E, E = csE (eds L) := ⟨_, rfl⟩
  obtain ⟨c, hc⟩ : ∃ c, c = csL (eds L) := ⟨_, rfl⟩
  obtain ⟨F, hF⟩ : ∃ F, F = ssE (eds L) n t := ⟨_, rfl⟩
  obtain ⟨V, hV⟩ : ∃ V, V = coV (eds L) n t := ⟨_, rfl⟩
  rw [← hc] at hcl
  rw [← hE, ← hc] at hcu hre
  rw [← hF, ← hV] at hco hro
  replace hE := hide hE
  replace hc := hide hc
  replace hF := hide hF
  replace hV := hide hV
  by_cases h60 : L.length ≤ 60
  case neg =>
    rw [decide_eq_false h60] at hfw
    clear hcl
    go_enter Try.func3, Try.ntmps3
    go_wp2_with (first | (go_at_call 7; (with_reducible refine seq_gw (hfw.out _ (Ext.refl _)) ?_); intro g) | (go_at_call 8; (with_reducible refine seq_gw' (hl.out _) ?_); intro g2))
    go_returns
    exact ⟨rfl, g2.grown⟩
  rw [decide_eq_true h60] at hfw
  have hcl := hcl h60
  go_enter Try.func3, Try.ntmps3
  have hEE : (E != E) = false := by simp
  have hFF : (F == F) = true := by simp
  have hVV : (V == V) = true := by simp
  go_wp2_with (first | (go_at_call 7; (with_reducible refine seq_gw (hfw.out _ (Ext.refl _)) ?_); intro g) | (go_at_call 9; refine (hcu.out _ g.grown).mono ?_; rintro ee w4 ⟨v4, rfl, ho4, hx4⟩; have hx5 := hide (g.grown.trans hx4); have ho5 := hide ho4; obtain ⟨A4, c4, q4⟩ := own_form ho4; subst q4; clear ho4 hx4) | (go_at_call 10; refine (hre.out h60 _ hx5.out).mono ?_; rintro ee w6 ⟨v6, rfl, hz6, hx6⟩; have hx7 := hide (hx5.out.trans hx6); have hz7 := hide hz6; have ho7 := hide (own_ext ho5.out hx6); obtain ⟨A6, c6, q6, -, -, -⟩ := zw_form hz6; subst q6; clear hz6 hx6))
  go_loopg [11] c.length (fun gh i wr => ∃ (k : Nat), i = .int .i64 k ∧ k + gh = c.length ∧ Hid (Ext w6 wr))
  case atStart => exact ⟨0, by go_num, by omega, Ext.refl _⟩
  case round =>
    obtain ⟨k, rfl, hk, hX⟩ := hrel
    by_cases hlt : k < c.length
    · obtain ⟨t, ht⟩ : ∃ t, c[k]? = some t := ⟨_, List.getElem?_eq_getElem hlt⟩
      obtain ⟨A', cp', e', -, -, hat⟩ := zw_form (own_zw (own_ext ho7.out hX.out))
      simp only [Value.slice.injEq] at e'
      obtain ⟨rfl, -, rfl⟩ := e'
      obtain ⟨b, o, rfl, -, hbl, c0⟩ := hat k t ht
      obtain ⟨A', cp', e', -, -, hat2⟩ := zw_form (Sl.ext hz7.out hX.out)
      simp only [Value.slice.injEq] at e'
      obtain ⟨rfl, -, rfl⟩ := e'
      obtain ⟨b2, o2, rfl, -, hbl2, c2⟩ := hat2 k t ht
      haveI : In b wr := ⟨hbl⟩
      haveI : In b2 wr := ⟨hbl2⟩
      have htt : (t != t) = false := by simp
      clear hat hat2 ht
      go_wp2_with fail
      refine wp_region_gw (by kernel_rfl) (by kernel_rfl) ?_
      repeat (go_big_quiet_step (fail))
      refine wpQuiet_nil ?_
      intro g8
      go_wp2_with fail
      go_roundg (c.length - (k + 1))
      case measure => omega
      case rel => exact ⟨k + 1, by go_num, by omega, hX.out.trans g8.grown⟩
    · have hXX := hide (hx7.out.trans hX.out)
      go_wp2_with (first | (go_at_call 11; (with_reducible refine seq_gw (hco.out _ hXX.out) ?_); intro g8) | (go_at_call 12; (with_reducible refine seq_gw' (hro.out h60 _ (hXX.out.trans g8.grown)) ?_); intro g9) | (go_at_call 8; (with_reducible refine seq_gw' (hl.out _) ?_); intro g10))
      go_returns
      exact ⟨by first | rfl | simp, hXX.out.trans g10.grown⟩
end Go.Proofs.Ytljkneajdndgjaa
set_option linter.unusedVariables false
set_option linter.unusedSimpArgs false
namespace Go.Proofs.Ytljkneajdndgjaa
open Go.RowKit Go.Deep Go.ChangeShapes

section
variable {H : Type} {enc : TypeId × Value → H} {P : Program} {w : World} {base fuel : Nat} {held : Bool}
theorem rc_at (l : List Vl) (j : Nat) (u : Value) (h : (rc l)[j]? = some u) : ∃ i a k, l[i]? = some a ∧ j = i * 3 + k ∧ (vc a)[k]? = some u := by
  have hj : j < l.length * 3 := by
    rcases Nat.lt_or_ge j (l.length * 3) with h1 | h1
    · exact h1
    · rw [List.getElem?_eq_none (by rw [rc_length]; exact h1)] at h; cases h
  have hi : j / 3 < l.length := by omega
  refine ⟨j / 3, l[j / 3], j % 3, List.getElem?_eq_getElem hi, by omega, ?_⟩
  have hk : j % 3 = 0 ∨ j % 3 = 1 ∨ j % 3 = 2 := by omega
  obtain ⟨v, hv⟩ : ∃ v, (vc l[j / 3])[j % 3]? = some v := by
    rcases hk with e | e | e <;> rw [e] <;> exact ⟨_, rfl⟩
  have := rc_get l (j / 3) _ (List.getElem?_eq_getElem hi) _ v hv
  rw [show j / 3 * 3 + j % 3 = j by omega, h] at this
  rw [hv, this]
theorem open_row {t e : TypeId} {f0 f1 f2 : Field} {v : Value} {x : DataW H × List MemPlace} (ht : P.underlying t = some (.slice e)) (he : P.underlying e = some (.struct #[f0, f1, f2]))
    (ce : P.cellsOf e = 3) (o0 : f0.offset = 0) (o1 : f1.offset = 1) (o2 : f2.offset = 2) (c0 : P.cellsOf f0.type = 1) (c1 : P.cellsOf f1.type = 1) (c2 : P.cellsOf f2.type = 1)
    (u0 : P.underlying f0.type = some (.int .i64)) (u1 : P.underlying f1.type = some (.int .i64)) (u2 : P.underlying f2.type = some .string)
    (h : DataW.trod enc P w base (fun _ => true) held fuel t [v] = some x) : ∃ l : List Vl, l.length = sliceLen x.1 ∧ Rw w [] v l ∧ ∀ a ∈ l, inI a.2.1 := by
  rcases open_slice ht h with ⟨h1, rfl⟩ | ⟨a, len, cap, m, n, D, Pl, h1, _, hl, hm, hmm, rfl, hel⟩
  · obtain rfl : v = .slice none 0 0 := by simpa using h1
    exact ⟨[], rfl, Sl.nil _ _ _, by simp⟩
  · obtain rfl : v = .slice (some a) len cap := by simpa using h1
    simp only [if_true] at hmm
    have each : ∀ i, i < len → ∃ p : Vl, (∀ k u, (vc p)[k]? = some u → w.cell? ((a.add (i * 3)).add k) = some u) ∧ inI p.2.1 := by
      intro i hi
      obtain ⟨cs, hc, htr⟩ := hel i (by omega)
      rw [ce] at hc
      obtain ⟨_, hlen, hat⟩ := World.cells?_some hc
      obtain ⟨xs, k, _, _, _, hxl, hf⟩ := DataW.trod_struct he htr
      match cs, hlen with
      | [w0, w1, w2], _ =>
        match xs, hxl with
        | [y0, y1, y2], _ =>
          have g0 := hf 0 f0 rfl
          have g1 := hf 1 f1 rfl
          have g2 := hf 2 f2 rfl
          rw [o0, c0] at g0
          rw [o1, c1] at g1
          rw [o2, c2] at g2
          obtain ⟨z0, q0, _, _⟩ := DataW.trod_int u0 g0
          obtain ⟨z1, q1, _, k1⟩ := DataW.trod_int u1 g1
          obtain ⟨z2, q2, _, _⟩ := DataW.trod_string u2 g2
          simp at q0 q1 q2
          subst q0; subst q1; subst q2
          refine ⟨(z0, z1, z2), fun k u hu => ?_, wf_i64 k1⟩
          have hk : k < 3 := by simpa [vc] using (List.getElem?_eq_some_iff.1 hu).1
          rw [hat k hk]
          exact hu
    obtain ⟨p, hp⟩ := choose_lt (α := Vl) (p := fun i p => (∀ k u, (vc p)[k]? = some u → w.cell? ((a.add (i * 3)).add k) = some u) ∧ inI p.2.1) each
    refine ⟨(List.range len).map p, by simp [sliceLen], ⟨some a, cap, by simp, by simpa using hl, hm, by rw [rc_length], ?_⟩, ?_⟩
    · by_cases h0 : len = 0
      · left; subst h0; rfl
      right
      have hz := (hp 0 (by omega)).1 0 _ rfl
      obtain ⟨b, o, rfl⟩ := addr_plain (i := 0) (a := a) (by
        have e0 : (a.add (0 * 3)).add 0 = a.add 0 := by rw [Nat.zero_mul]; exact (show (a.add 0).add 0 = a.add (0 + 0) from Go.Deep.add_add ..)
        rw [e0] at hz; exact hz) rfl
      refine ⟨b, o, rfl, by simp, fun j u hu => ?_⟩
      obtain ⟨i, q, k, hq, rfl, hk⟩ := rc_at _ j u hu
      have hi : i < len := by
        rcases Nat.lt_or_ge i len with h | h
        · exact h
        · rw [List.getElem?_eq_none (by simpa using h)] at hq; cases hq
      have hq' : q = p i := by simpa [hi] using hq.symm
      subst hq'
      have := (hp i hi).1 k u hk
      rw [add_plain, add_plain, Nat.add_assoc] at this
      exact this
    · intro q hq
      simp only [List.mem_map, List.mem_range] at hq
      obtain ⟨i, hi, rfl⟩ := hq
      exact (hp i hi).2
theorem sized_elems {ts : List TypeId} {ds : List (DataW H)} (h : (DataW.weightsEach P ts ds).all (· ≤ reachBytes) = true) {j : Nat} {t e : TypeId} {d : DataW H} {b : Nat} (ht : ts[j]? = some t) (hd : ds[j]? = some d) (hu : P.underlying t = some (.slice e)) (hb : P.bytesOf e = b) :
    sliceLen d * b ≤ 140737488351232 := by
  cases d with
  | slice elems spare =>
    have h1 := sized_slice h ht hd hu
    rw [hb] at h1
    have h2 := Nat.mul_le_mul_right b (Nat.le_add_right elems.length spare.length)
    simp only [sliceLen, reachBytes] at *
    omega
  | _ => simp [sliceLen]
end
end Go.Proofs.Ytljkneajdndgjaa
set_option linter.unusedVariables false
set_option linter.unusedSimpArgs false
namespace Go.Proofs.Ytljkneajdndgjaa
open Go.RowKit Go.Deep Go.ChangeShapes

section
variable {H : Type} {enc : TypeId × Value → H} {P : Program} {w : World} {base fuel : Nat} {held : Bool}
theorem ec_at (l : List Ve) (j : Nat) (u : Value) (h : (ec l)[j]? = some u) : ∃ i a k, l[i]? = some a ∧ j = i * 3 + k ∧ (ec1 a)[k]? = some u := by
  have hj : j < l.length * 3 := by
    rcases Nat.lt_or_ge j (l.length * 3) with h1 | h1
    · exact h1
    · rw [List.getElem?_eq_none (by rw [ec_length]; exact h1)] at h; cases h
  have hi : j / 3 < l.length := by omega
  refine ⟨j / 3, l[j / 3], j % 3, List.getElem?_eq_getElem hi, by omega, ?_⟩
  have hk : j % 3 = 0 ∨ j % 3 = 1 ∨ j % 3 = 2 := by omega
  obtain ⟨v, hv⟩ : ∃ v, (ec1 l[j / 3])[j % 3]? = some v := by
    rcases hk with e | e | e <;> rw [e] <;> exact ⟨_, rfl⟩
  have := ec_get l (j / 3) _ (List.getElem?_eq_getElem hi) _ v hv
  rw [show j / 3 * 3 + j % 3 = j by omega, h] at this
  rw [hv, this]
theorem open_edges {t e r : TypeId} {f0 f1 f2 g0 g1 g2 : Field} {v : Value} {x : DataW H × List MemPlace} (ht : P.underlying t = some (.slice e)) (he : P.underlying e = some (.struct #[f0, f1, f2]))
    (ce : P.cellsOf e = 3) (o0 : f0.offset = 0) (o1 : f1.offset = 1) (o2 : f2.offset = 2) (c0 : P.cellsOf f0.type = 1) (c1 : P.cellsOf f1.type = 1) (c2 : P.cellsOf f2.type = 1)
    (u0 : P.underlying f0.type = some (.slice r)) (u1 : P.underlying f1.type = some (.int .i64)) (u2 : P.underlying f2.type = some (.int .i64))
    (hr : P.underlying r = some (.struct #[g0, g1, g2])) (cr : P.cellsOf r = 3) (p0 : g0.offset = 0) (p1 : g1.offset = 1) (p2 : g2.offset = 2) (d0 : P.cellsOf g0.type = 1) (d1 : P.cellsOf g1.type = 1) (d2 : P.cellsOf g2.type = 1)
    (y0 : P.underlying g0.type = some (.int .i64)) (y1 : P.underlying g1.type = some (.int .i64)) (y2 : P.underlying g2.type = some .string)
    (h : DataW.trod enc P w base (fun _ => true) held fuel t [v] = some x) : ∃ L : List Ve, L.length = sliceLen x.1 ∧ Ew w [] v L := by
  rcases open_slice ht h with ⟨h1, rfl⟩ | ⟨a, len, cap, m, n, D, Pl, h1, _, hl, hm, hmm, rfl, hel⟩
  · obtain rfl : v = .slice none 0 0 := by simpa using h1
    exact ⟨[], rfl, Sl.nil _ _ _, by simp⟩
  · obtain rfl : v = .slice (some a) len cap := by simpa using h1
    simp only [if_true] at hmm
    have each : ∀ i, i < len → ∃ p : Ve, (∀ k u, (ec1 p)[k]? = some u → w.cell? ((a.add (i * 3)).add k) = some u) ∧ Rw w [] p.1 p.2.1 := by
      intro i hi
      obtain ⟨cs, hc, htr⟩ := hel i (by omega)
      rw [ce] at hc
      obtain ⟨_, hlen, hat⟩ := World.cells?_some hc
      obtain ⟨xs, k, _, _, _, hxl, hf⟩ := DataW.trod_struct he htr
      match cs, hlen with
      | [w0, w1, w2], _ =>
        match xs, hxl with
        | [z0, z1, z2], _ =>
          have q0 := hf 0 f0 rfl
          have q1 := hf 1 f1 rfl
          have q2 := hf 2 f2 rfl
          rw [o0, c0] at q0
          rw [o1, c1] at q1
          rw [o2, c2] at q2
          obtain ⟨l, _, hrl, _⟩ := open_row u0 hr cr p0 p1 p2 d0 d1 d2 y0 y1 y2 (show DataW.trod enc P w base (fun _ => true) held k f0.type [w0] = some _ from by simpa using q0)
          obtain ⟨a1, e1, _, _⟩ := DataW.trod_int u1 q1
          obtain ⟨a2, e2, _, _⟩ := DataW.trod_int u2 q2
          simp at e1 e2
          subst e1; subst e2
          refine ⟨(w0, l, (a1, a2)), fun k u hu => ?_, hrl⟩
          have hk : k < 3 := by simpa [ec1] using (List.getElem?_eq_some_iff.1 hu).1
          rw [hat k hk]
          exact hu
    obtain ⟨p, hp⟩ := choose_lt (α := Ve) (p := fun i p => (∀ k u, (ec1 p)[k]? = some u → w.cell? ((a.add (i * 3)).add k) = some u) ∧ Rw w [] p.1 p.2.1) each
    refine ⟨(List.range len).map p, by simp [sliceLen], ⟨some a, cap, by simp, by simpa using hl, hm, by rw [ec_length], ?_⟩, ?_⟩
    · by_cases h0 : len = 0
      · left; subst h0; rfl
      right
      have hz := (hp 0 (by omega)).1 0 _ rfl
      obtain ⟨b, o, rfl⟩ := addr_plain (i := 0) (a := a) (by
        have e0 : (a.add (0 * 3)).add 0 = a.add 0 := by rw [Nat.zero_mul]; exact (show (a.add 0).add 0 = a.add (0 + 0) from Go.Deep.add_add ..)
        rw [e0] at hz; exact hz) rfl
      refine ⟨b, o, rfl, by simp, fun j u hu => ?_⟩
      obtain ⟨i, q, k, hq, rfl, hk⟩ := ec_at _ j u hu
      have hi : i < len := by
        rcases Nat.lt_or_ge i len with h | h
        · exact h
        · rw [List.getElem?_eq_none (by simpa using h)] at hq; cases hq
      have hq' : q = p i := by simpa [hi] using hq.symm
      subst hq'
      have := (hp i hi).1 k u hk
      rw [add_plain, add_plain, Nat.add_assoc] at this
      exact this
    · intro q hq
      obtain ⟨i, hi, rfl⟩ := List.mem_map.1 hq
      exact (hp i (List.mem_range.1 hi)).2
end
end Go.Proofs.Ytljkneajdndgjaa
set_option linter.unusedVariables false
set_option linter.unusedSimpArgs false
namespace Go.Proofs.Ytljkneajdndgjaa
open Go.RowKit
attribute [local go_sem] GW.cell GW.frozen In.eq_true In.le_true In.ne In.ne' In.ne_add In.ne_add' In.lt_add Upto.le_true Upto.le_add Upto.lt_add
theorem cps_at {L M : List Vc} (h : cps L = cps M) {k : Nat} {c d : Vc} (hc : L[k]? = some c) (hd : M[k]? = some d) : c.2 = d.2 := by
  have h1 : (cps L)[k]? = (cps M)[k]? := by rw [h]
  rw [List.getElem?_map, List.getElem?_map, hc, hd] at h1
  simpa using h1
set_option maxHeartbeats 8000000 in
set_option maxRecDepth 100000 in
theorem refSameCopies_c (L M : List Vc) (hLM : cps L = cps M) (v u : Value) (w : World) (hL : Cw w [] v L) (hM : Cw w [] u M) : Calls Try.prog 36 #[v, u] w fun e w' => e = .returned (.bool true) ∧ Ext w w' := by
  have hlen : M.length = L.length := by have := congrArg List.length hLM; simpa using this.symm
  have hL' := hide hL
  have hM' := hide hM
  obtain ⟨A, cap, rfl, hlc, hlm, -⟩ := cw_form hL
  obtain ⟨A2, cap2, rfl, -, -, -⟩ := cw_form hM
  unfold maxLen at hlm
  rw [hlen] at hM' ⊢
  have hMh := hide hlen
  clear hL hM hlen
  have hnn : ((L.length : Int) != (L.length : Int)) = false := by simp
  go_enter Try.func36, Try.ntmps36
  go_wp2_with fail
  go_loopg [5] L.length (fun gh i wr => ∃ (k : Nat), i = .int .i64 k ∧ k + gh = L.length ∧ Hid (Ext w wr))
  case atStart => exact ⟨0, by go_num, by omega, Ext.refl _⟩
  case round =>
    obtain ⟨k, rfl, hk, hX⟩ := hrel
    by_cases hlt : k < L.length
    · obtain ⟨⟨x, q, n⟩, hd⟩ : ∃ p, L[k]? = some p := ⟨_, List.getElem?_eq_getElem hlt⟩
      obtain ⟨⟨y, q2, n2⟩, hd2⟩ : ∃ p, M[k]? = some p := ⟨_, List.getElem?_eq_getElem (by rw [hMh.out]; exact hlt)⟩
      have e := cps_at hLM hd hd2
      simp only [Prod.mk.injEq] at e
      obtain ⟨rfl, rfl⟩ := e
      obtain ⟨A', cap', e', -, -, hat⟩ := cw_form (hL'.out.ext hX.out)
      simp only [Value.slice.injEq] at e'
      obtain ⟨rfl, -, rfl⟩ := e'
      obtain ⟨b, o, rfl, -, hbl, c0, c1⟩ := hat k _ hd
      obtain ⟨A', cap', e', -, -, hat2⟩ := cw_form (hM'.out.ext hX.out)
      simp only [Value.slice.injEq] at e'
      obtain ⟨rfl, -, rfl⟩ := e'
      obtain ⟨b2, o2, rfl, -, hbl2, d0, d1⟩ := hat2 k _ hd2
      have hr := (hL'.out.ext hX.out).2 _ (List.mem_of_getElem? hd)
      have hr2 := (hM'.out.ext hX.out).2 _ (List.mem_of_getElem? hd2)
      simp only at hr hr2 c0 c1 d0 d1
      obtain ⟨RA, rcap, rfl⟩ := rw_val hr
      obtain ⟨RB, rcap2, rfl⟩ := rw_val hr2
      have hs := hide (fun (g : GW wr) => refRowSame_c (Sl.ext hr g.grown) (Sl.ext hr2 g.grown))
      rw [decide_eq_true rfl] at hs
      haveI : In b wr := ⟨hbl⟩
      haveI : In b2 wr := ⟨hbl2⟩
      have hn2 : (n != n) = false := by simp
      clear hat hat2 hd hd2 hr hr2 hLM
      go_wp2_with fail
      refine wp_region_gw (by kernel_rfl) (by kernel_rfl) ?_
      repeat (go_big_quiet_step ((go_at_call 40; with_reducible exact quiet_gw (hs.out _))))
      refine wpQuiet_nil ?_
      intro g8
      go_wp2_with fail
      go_roundg (L.length - (k + 1))
      case measure => omega
      case rel => exact ⟨k + 1, by go_num, by omega, hX.out.trans g8.grown⟩
    · go_wp2_with fail
      go_returns
      exact ⟨rfl, hX.out⟩
theorem pts_at {L M : List Vp} (h : pts L = pts M) {k : Nat} {c d : Vp} (hc : L[k]? = some c) (hd : M[k]? = some d) : c.2.1 = d.2.1 ∧ cps c.2.2 = cps d.2.2 := by
  have h1 : (pts L)[k]? = (pts M)[k]? := by rw [h]
  rw [List.getElem?_map, List.getElem?_map, hc, hd] at h1
  simpa using h1
theorem cw_val {w : World} {S : List Nat} {v : Value} {l : List Vc} (h : Cw w S v l) : ∃ A cap, v = .slice A l.length cap := by obtain ⟨A, cap, e, _⟩ := h.1; exact ⟨A, cap, e⟩
set_option maxHeartbeats 8000000 in
set_option maxRecDepth 100000 in
theorem refSameParts_c (L M : List Vp) (hLM : pts L = pts M) (v u : Value) (w : World) (hL : Pw w [] v L) (hM : Pw w [] u M) : Calls Try.prog 15 #[v, u] w fun e w' => e = .returned (.bool true) ∧ Ext w w' := by
  have hlen : M.length = L.length := by have := congrArg List.length hLM; simpa using this.symm
  have hL' := hide hL
  have hM' := hide hM
  obtain ⟨A, cap, rfl, hlc, hlm, -⟩ := pw_form hL
  obtain ⟨A2, cap2, rfl, -, -, -⟩ := pw_form hM
  unfold maxLen at hlm
  rw [hlen] at hM' ⊢
  have hMh := hide hlen
  clear hL hM hlen
  have hnn : ((L.length : Int) != (L.length : Int)) = false := by simp
  go_enter Try.func15, Try.ntmps15
  go_wp2_with fail
  go_loopg [5] L.length (fun gh i wr => ∃ (k : Nat), i = .int .i64 k ∧ k + gh = L.length ∧ Hid (Ext w wr))
  case atStart => exact ⟨0, by go_num, by omega, Ext.refl _⟩
  case round =>
    obtain ⟨k, rfl, hk, hX⟩ := hrel
    by_cases hlt : k < L.length
    · obtain ⟨⟨x, ⟨s, t⟩, C⟩, hd⟩ : ∃ p, L[k]? = some p := ⟨_, List.getElem?_eq_getElem hlt⟩
      obtain ⟨⟨y, ⟨s2, t2⟩, C2⟩, hd2⟩ : ∃ p, M[k]? = some p := ⟨_, List.getElem?_eq_getElem (by rw [hMh.out]; exact hlt)⟩
      have e := pts_at hLM hd hd2
      simp only [Prod.mk.injEq] at e
      obtain ⟨⟨rfl, rfl⟩, hcc⟩ := e
      obtain ⟨A', cap', e', -, -, hat⟩ := pw_form (hL'.out.ext hX.out)
      simp only [Value.slice.injEq] at e'
      obtain ⟨rfl, -, rfl⟩ := e'
      obtain ⟨b, o, rfl, -, hbl, c0, c1, c2⟩ := hat k _ hd
      obtain ⟨A', cap', e', -, -, hat2⟩ := pw_form (hM'.out.ext hX.out)
      simp only [Value.slice.injEq] at e'
      obtain ⟨rfl, -, rfl⟩ := e'
      obtain ⟨b2, o2, rfl, -, hbl2, d0, d1, d2⟩ := hat2 k _ hd2
      have hr := (hL'.out.ext hX.out).2 _ (List.mem_of_getElem? hd)
      have hr2 := (hM'.out.ext hX.out).2 _ (List.mem_of_getElem? hd2)
      simp only at hr hr2 c0 c1 c2 d0 d1 d2
      obtain ⟨RA, rcap, rfl⟩ := cw_val hr
      obtain ⟨RB, rcap2, rfl⟩ := cw_val hr2
      have hs := hide (fun (g : GW wr) => refSameCopies_c C C2 hcc _ _ g.val (hr.ext g.grown) (hr2.ext g.grown))
      haveI : In b wr := ⟨hbl⟩
      haveI : In b2 wr := ⟨hbl2⟩
      have hn2 : (s != s) = false := by simp
      have hn3 : (t != t) = false := by simp
      clear hat hat2 hd hd2 hr hr2 hLM hcc
      go_wp2_with fail
      refine wp_region_gw (by kernel_rfl) (by kernel_rfl) ?_
      repeat (go_big_quiet_step ((go_at_call 36; with_reducible exact quiet_gw (hs.out _))))
      refine wpQuiet_nil ?_
      intro g8
      go_wp2_with fail
      go_roundg (L.length - (k + 1))
      case measure => omega
      case rel => exact ⟨k + 1, by go_num, by omega, hX.out.trans g8.grown⟩
    · go_wp2_with fail
      go_returns
      exact ⟨rfl, hX.out⟩
end Go.Proofs.Ytljkneajdndgjaa
set_option linter.unusedVariables false
set_option linter.unusedSimpArgs false
namespace Go.Proofs.Ytljkneajdndgjaa
open Go.RowKit
attribute [local go_sem] GW.cell GW.frozen In.eq_true In.le_true In.ne In.ne' In.ne_add In.ne_add' In.lt_add Upto.le_true Upto.le_add Upto.lt_add
/-- Copies of one's own, of the edges' rows. -/
def DC (L : List Ve) (w : World) (B : Nat) (v : Value) (C : List Vc) : Prop := w.ownsRow B 54 2 v C.length (cc C) ∧ ∀ p ∈ C, ∃ q ∈ L, q.1 = p.1 ∧ q.2.1 = p.2.1
theorem DC.cw {L : List Ve} {w : World} {B : Nat} {v u : Value} {C : List Vc} (h : DC L w B v C) (hL : Ew w [] u L) : Cw w [] v C := ⟨Sl.own h.1 (by simp), fun p hp => by
  obtain ⟨q, hq, e1, e2⟩ := h.2 p hp
  rw [← e1, ← e2]
  exact hL.2 q hq⟩
theorem DC.ext {L : List Ve} {w w' : World} {B : Nat} {v : Value} {C : List Vc} (h : DC L w B v C) (hX : Ext w w') : DC L w' B v C := ⟨own_ext h.1 hX, h.2⟩
theorem DC.away {L : List Ve} {w w' : World} {B : Nat} {v : Value} {C : List Vc} {S : List Nat} (h : DC L w B v C) (hF : Fr S w w') (hS : ∀ b ∈ S, b ∉ ob v) : DC L w' B v C := ⟨own_away h.1 hF hS, h.2⟩
theorem DC.base {L : List Ve} {w : World} {B B' : Nat} {v : Value} {C : List Vc} (h : DC L w B v C) (hb : B' ≤ B) : DC L w B' v C := ⟨own_base h.1 hb, h.2⟩
end Go.Proofs.Ytljkneajdndgjaa
set_option linter.unusedVariables false
set_option linter.unusedSimpArgs false
namespace Go.Proofs.Ytljkneajdndgjaa
open Go.RowKit
attribute [local go_sem] GW.cell GW.frozen In.eq_true In.le_true In.ne In.ne' In.ne_add In.ne_add' In.lt_add Upto.le_true Upto.le_add Upto.lt_add
/-- A part of zero, made here. -/
def ptP (B : Nat) (v : Value) (w : World) : Prop := ∃ p, v = .pointer (some ⟨p, 0, none⟩) ∧ B ≤ p ∧ Ob w p 44 [.int .i64 0, .int .i64 0, .slice none 0 0]
theorem ptP.ext {B : Nat} {v : Value} {w w' : World} (h : ptP B v w) (k : Ext w w') : ptP B v w' := by obtain ⟨p, e, hb, ho⟩ := h; exact ⟨p, e, hb, ho.ext k⟩
end Go.Proofs.Ytljkneajdndgjaa
