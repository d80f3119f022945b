/-
  A helper of ours: no claim of its own. The closed facts of the row of AntiPartners, one by one.
-/
import Derived.Test.YtljkneajdndgjabGreatStepE
import Derived.Test.YtljkneajdndgjabGreatStepA
import Derived.Test.YtljkneajdndgjabGreatRowS
import Derived.Test.YtljkneajdndgjabGreatEvaA
import Derived.Test.YtljkneajdndgjabGreatRows
import Derived.Test.YtljkneajdndgjabGreatChecked
import Derived.WalkKit
import Derived.ProofKit
import Derived.JoinedCond
set_option linter.unusedVariables false
set_option linter.unusedSimpArgs false
namespace Go.Proofs.YtljkneajdndgjabGreat
open Go.RowKit
theorem rw_box {W : World} {S : List Nat} {v : Value} {r : List Vl} {b : Nat} {T : TypeId} {A : Option Addr} {n cap : Nat} (h : Rw W S v r) (o : Ob W b T [.slice A n cap]) : Rw W (b :: S) v r := by
  obtain ⟨B, k, rfl, h1, h2, h3, h4⟩ := h
  refine ⟨B, k, rfl, h1, h2, h3, ?_⟩
  rcases h4 with h4 | ⟨c, p, e, hcS, hc⟩
  · exact .inl h4
  · rcases r with _ | ⟨x, r⟩
    · exact .inl rfl
    · refine .inr ⟨c, p, e, ?_, hc⟩
      intro hcb
      rcases List.mem_cons.1 hcb with hcb | hcb
      · subst hcb
        have q := hc 0 (.int .i64 x.1) rfl
        rw [cell_of_row W c (p + 0) _ T (0, 0) o] at q
        rcases p with _ | p
        · simp at q
        · simp at q
      · exact hcS hcb
theorem ew_box {W : World} {S : List Nat} {v : Value} {L : List Ve} {b : Nat} {T : TypeId} {A : Option Addr} {n cap : Nat} (h : Ew W S v L) (o : Ob W b T [.slice A n cap]) : Ew W (b :: S) v L := by
  refine ⟨?_, fun p hp => rw_box (h.2 p hp) o⟩
  obtain ⟨B, k, rfl, h1, h2, h3, h4⟩ := h.1
  refine ⟨B, k, rfl, h1, h2, h3, ?_⟩
  rcases h4 with h4 | ⟨c, p, e, hcS, hc⟩
  · exact .inl h4
  · rcases L with _ | ⟨x, L⟩
    · exact .inl rfl
    · refine .inr ⟨c, p, e, ?_, hc⟩
      intro hcb
      rcases List.mem_cons.1 hcb with hcb | hcb
      · subst hcb
        have q := hc 1 (.int .i64 x.2.2.1) rfl
        rw [cell_of_row W c (p + 1) _ T (0, 0) o] at q
        simp at q
      · exact hcS hcb
end Go.Proofs.YtljkneajdndgjabGreat
set_option linter.unusedVariables false
set_option linter.unusedSimpArgs false
namespace Go.Proofs.YtljkneajdndgjabGreat
open Go.RowKit Go.Deep Go.ChangeShapes

section
variable {H : Type} {enc : TypeId × Value → H} {P : Program} {w : World} {base fuel : Nat} {held : Bool}
theorem rc_at (l : List Vl) (j : Nat) (u : Value) (h : (rc l)[j]? = some u) : ∃ i a k, l[i]? = some a ∧ j = i * 3 + k ∧ (vc a)[k]? = some u := by
  have hj : j < l.length * 3 := by
    rcases Nat.lt_or_ge j (l.length * 3) with h1 | h1
    · exact h1
    · rw [List.getElem?_eq_none (by rw [rc_length]; exact h1)] at h; cases h
  have hi : j / 3 < l.length := by omega
  refine ⟨j / 3, l[j / 3], j % 3, List.getElem?_eq_getElem hi, by omega, ?_⟩
  have hk : j % 3 = 0 ∨ j % 3 = 1 ∨ j % 3 = 2 := by omega
  obtain ⟨v, hv⟩ : ∃ v, (vc l[j / 3])[j % 3]? = some v := by
    rcases hk with e | e | e <;> rw [e] <;> exact ⟨_, rfl⟩
  have := rc_get l (j / 3) _ (List.getElem?_eq_getElem hi) _ v hv
  rw [show j / 3 * 3 + j % 3 = j by omega, h] at this
  rw [hv, this]
theorem open_row {t e : TypeId} {f0 f1 f2 : Field} {v : Value} {x : DataW H × List MemPlace} (ht : P.underlying t = some (.slice e)) (he : P.underlying e = some (.struct #[f0, f1, f2]))
    (ce : P.cellsOf e = 3) (o0 : f0.offset = 0) (o1 : f1.offset = 1) (o2 : f2.offset = 2) (c0 : P.cellsOf f0.type = 1) (c1 : P.cellsOf f1.type = 1) (c2 : P.cellsOf f2.type = 1)
    (u0 : P.underlying f0.type = some (.int .i64)) (u1 : P.underlying f1.type = some (.int .i64)) (u2 : P.underlying f2.type = some .string)
    (h : DataW.trod enc P w base (fun _ => true) held fuel t [v] = some x) : ∃ l : List Vl, l.length = sliceLen x.1 ∧ Rw w [] v l ∧ ∀ a ∈ l, inI a.2.1 := by
  rcases open_slice ht h with ⟨h1, rfl⟩ | ⟨a, len, cap, m, n, D, Pl, h1, _, hl, hm, hmm, rfl, hel⟩
  · obtain rfl : v = .slice none 0 0 := by simpa using h1
    exact ⟨[], rfl, Sl.nil _ _ _, by simp⟩
  · obtain rfl : v = .slice (some a) len cap := by simpa using h1
    simp only [if_true] at hmm
    have each : ∀ i, i < len → ∃ p : Vl, (∀ k u, (vc p)[k]? = some u → w.cell? ((a.add (i * 3)).add k) = some u) ∧ inI p.2.1 := by
      intro i hi
      obtain ⟨cs, hc, htr⟩ := hel i (by omega)
      rw [ce] at hc
      obtain ⟨_, hlen, hat⟩ := World.cells?_some hc
      obtain ⟨xs, k, _, _, _, hxl, hf⟩ := DataW.trod_struct he htr
      match cs, hlen with
      | [w0, w1, w2], _ =>
        match xs, hxl with
        | [y0, y1, y2], _ =>
          have g0 := hf 0 f0 rfl
          have g1 := hf 1 f1 rfl
          have g2 := hf 2 f2 rfl
          rw [o0, c0] at g0
          rw [o1, c1] at g1
          rw [o2, c2] at g2
          obtain ⟨z0, q0, _, _⟩ := DataW.trod_int u0 g0
          obtain ⟨z1, q1, _, k1⟩ := DataW.trod_int u1 g1
          obtain ⟨z2, q2, _, _⟩ := DataW.trod_string u2 g2
          simp at q0 q1 q2
          subst q0; subst q1; subst q2
          refine ⟨(z0, z1, z2), fun k u hu => ?_, wf_i64 k1⟩
          have hk : k < 3 := by simpa [vc] using (List.getElem?_eq_some_iff.1 hu).1
          rw [hat k hk]
          exact hu
    obtain ⟨p, hp⟩ := choose_lt (α := Vl) (p := fun i p => (∀ k u, (vc p)[k]? = some u → w.cell? ((a.add (i * 3)).add k) = some u) ∧ inI p.2.1) each
    refine ⟨(List.range len).map p, by simp [sliceLen], ⟨some a, cap, by simp, by simpa using hl, hm, by rw [rc_length], ?_⟩, ?_⟩
    · by_cases h0 : len = 0
      · left; subst h0; rfl
      right
      have hz := (hp 0 (by omega)).1 0 _ rfl
      obtain ⟨b, o, rfl⟩ := addr_plain (i := 0) (a := a) (by
        have e0 : (a.add (0 * 3)).add 0 = a.add 0 := by rw [Nat.zero_mul]; exact (show (a.add 0).add 0 = a.add (0 + 0) from Go.Deep.add_add ..)
        rw [e0] at hz; exact hz) rfl
      refine ⟨b, o, rfl, by simp, fun j u hu => ?_⟩
      obtain ⟨i, q, k, hq, rfl, hk⟩ := rc_at _ j u hu
      have hi : i < len := by
        rcases Nat.lt_or_ge i len with h | h
        · exact h
        · rw [List.getElem?_eq_none (by simpa using h)] at hq; cases hq
      have hq' : q = p i := by simpa [hi] using hq.symm
      subst hq'
      have := (hp i hi).1 k u hk
      rw [add_plain, add_plain, Nat.add_assoc] at this
      exact this
    · intro q hq
      simp only [List.mem_map, List.mem_range] at hq
      obtain ⟨i, hi, rfl⟩ := hq
      exact (hp i hi).2
theorem sized_elems {ts : List TypeId} {ds : List (DataW H)} (h : (DataW.weightsEach P ts ds).all (· ≤ reachBytes) = true) {j : Nat} {t e : TypeId} {d : DataW H} {b : Nat} (ht : ts[j]? = some t) (hd : ds[j]? = some d) (hu : P.underlying t = some (.slice e)) (hb : P.bytesOf e = b) :
    sliceLen d * b ≤ 140737488351232 := by
  cases d with
  | slice elems spare =>
    have h1 := sized_slice h ht hd hu
    rw [hb] at h1
    have h2 := Nat.mul_le_mul_right b (Nat.le_add_right elems.length spare.length)
    simp only [sliceLen, reachBytes] at *
    omega
  | _ => simp [sliceLen]
end
end Go.Proofs.YtljkneajdndgjabGreat
set_option linter.unusedVariables false
set_option linter.unusedSimpArgs false
namespace Go.Proofs.YtljkneajdndgjabGreat
open Go.RowKit Go.Deep Go.ChangeShapes

section
variable {H : Type} {enc : TypeId × Value → H} {P : Program} {w : World} {base fuel : Nat} {held : Bool}
theorem ec_at (l : List Ve) (j : Nat) (u : Value) (h : (ec l)[j]? = some u) : ∃ i a k, l[i]? = some a ∧ j = i * 3 + k ∧ (ec1 a)[k]? = some u := by
  have hj : j < l.length * 3 := by
    rcases Nat.lt_or_ge j (l.length * 3) with h1 | h1
    · exact h1
    · rw [List.getElem?_eq_none (by rw [ec_length]; exact h1)] at h; cases h
  have hi : j / 3 < l.length := by omega
  refine ⟨j / 3, l[j / 3], j % 3, List.getElem?_eq_getElem hi, by omega, ?_⟩
  have hk : j % 3 = 0 ∨ j % 3 = 1 ∨ j % 3 = 2 := by omega
  obtain ⟨v, hv⟩ : ∃ v, (ec1 l[j / 3])[j % 3]? = some v := by
    rcases hk with e | e | e <;> rw [e] <;> exact ⟨_, rfl⟩
  have := ec_get l (j / 3) _ (List.getElem?_eq_getElem hi) _ v hv
  rw [show j / 3 * 3 + j % 3 = j by omega, h] at this
  rw [hv, this]
end
end Go.Proofs.YtljkneajdndgjabGreat
set_option linter.unusedVariables false
set_option linter.unusedSimpArgs false
namespace Go.Proofs.YtljkneajdndgjabGreat
open Go.RowKit Go.Deep Go.ChangeShapes

section
variable {H : Type} {enc : TypeId × Value → H} {P : Program} {w : World} {base fuel : Nat} {held : Bool}
theorem open_edgesW {t e r : TypeId} {f0 f1 f2 g0 g1 g2 : Field} {v : Value} {x : DataW H × List MemPlace} (ht : P.underlying t = some (.slice e)) (he : P.underlying e = some (.struct #[f0, f1, f2]))
    (ce : P.cellsOf e = 3) (o0 : f0.offset = 0) (o1 : f1.offset = 1) (o2 : f2.offset = 2) (c0 : P.cellsOf f0.type = 1) (c1 : P.cellsOf f1.type = 1) (c2 : P.cellsOf f2.type = 1)
    (u0 : P.underlying f0.type = some (.slice r)) (u1 : P.underlying f1.type = some (.int .i64)) (u2 : P.underlying f2.type = some (.int .i64))
    (hr : P.underlying r = some (.struct #[g0, g1, g2])) (cr : P.cellsOf r = 3) (p0 : g0.offset = 0) (p1 : g1.offset = 1) (p2 : g2.offset = 2) (d0 : P.cellsOf g0.type = 1) (d1 : P.cellsOf g1.type = 1) (d2 : P.cellsOf g2.type = 1)
    (y0 : P.underlying g0.type = some (.int .i64)) (y1 : P.underlying g1.type = some (.int .i64)) (y2 : P.underlying g2.type = some .string)
    (h : DataW.trod enc P w base (fun _ => true) held fuel t [v] = some x) : ∃ L : List Ve, L.length = sliceLen x.1 ∧ Ew w [] v L ∧ ∀ e ∈ eds L, ∀ o ∈ e.1, inW o := by
  rcases open_slice ht h with ⟨h1, rfl⟩ | ⟨a, len, cap, m, n, D, Pl, h1, _, hl, hm, hmm, rfl, hel⟩
  · obtain rfl : v = .slice none 0 0 := by simpa using h1
    exact ⟨[], rfl, ⟨Sl.nil _ _ _, by simp⟩, by simp [eds]⟩
  · obtain rfl : v = .slice (some a) len cap := by simpa using h1
    simp only [if_true] at hmm
    have each : ∀ i, i < len → ∃ p : Ve, (∀ k u, (ec1 p)[k]? = some u → w.cell? ((a.add (i * 3)).add k) = some u) ∧ Rw w [] p.1 p.2.1 ∧ ∀ o ∈ p.2.1, inW o := by
      intro i hi
      obtain ⟨cs, hc, htr⟩ := hel i (by omega)
      rw [ce] at hc
      obtain ⟨_, hlen, hat⟩ := World.cells?_some hc
      obtain ⟨xs, k, _, _, _, hxl, hf⟩ := DataW.trod_struct he htr
      match cs, hlen with
      | [w0, w1, w2], _ =>
        match xs, hxl with
        | [z0, z1, z2], _ =>
          have q0 := hf 0 f0 rfl
          have q1 := hf 1 f1 rfl
          have q2 := hf 2 f2 rfl
          rw [o0, c0] at q0
          rw [o1, c1] at q1
          rw [o2, c2] at q2
          obtain ⟨l, _, hrl, hiw⟩ := open_row u0 hr cr p0 p1 p2 d0 d1 d2 y0 y1 y2 (show DataW.trod enc P w base (fun _ => true) held k f0.type [w0] = some _ from by simpa using q0)
          obtain ⟨a1, e1, _, _⟩ := DataW.trod_int u1 q1
          obtain ⟨a2, e2, _, _⟩ := DataW.trod_int u2 q2
          simp at e1 e2
          subst e1; subst e2
          refine ⟨(w0, l, (a1, a2)), fun k u hu => ?_, hrl, hiw⟩
          have hk : k < 3 := by simpa [ec1] using (List.getElem?_eq_some_iff.1 hu).1
          rw [hat k hk]
          exact hu
    obtain ⟨p, hp⟩ := choose_lt (α := Ve) (p := fun i p => (∀ k u, (ec1 p)[k]? = some u → w.cell? ((a.add (i * 3)).add k) = some u) ∧ Rw w [] p.1 p.2.1 ∧ ∀ o ∈ p.2.1, inW o) each
    refine ⟨(List.range len).map p, by simp [sliceLen], ⟨⟨some a, cap, by simp, by simpa using hl, hm, by rw [ec_length], ?_⟩, ?_⟩, ?_⟩
    · by_cases h0 : len = 0
      · left; subst h0; rfl
      right
      have hz := (hp 0 (by omega)).1 0 _ rfl
      obtain ⟨b, o, rfl⟩ := addr_plain (i := 0) (a := a) (by
        have e0 : (a.add (0 * 3)).add 0 = a.add 0 := by rw [Nat.zero_mul]; exact (show (a.add 0).add 0 = a.add (0 + 0) from Go.Deep.add_add ..)
        rw [e0] at hz; exact hz) rfl
      refine ⟨b, o, rfl, by simp, fun j u hu => ?_⟩
      obtain ⟨i, q, k, hq, rfl, hk⟩ := ec_at _ j u hu
      have hi : i < len := by
        rcases Nat.lt_or_ge i len with h | h
        · exact h
        · rw [List.getElem?_eq_none (by simpa using h)] at hq; cases hq
      have hq' : q = p i := by simpa [hi] using hq.symm
      subst hq'
      have := (hp i hi).1 k u hk
      rw [add_plain, add_plain, Nat.add_assoc] at this
      exact this
    · intro q hq
      obtain ⟨i, hi, rfl⟩ := List.mem_map.1 hq
      exact (hp i (List.mem_range.1 hi)).2.1
    · intro e he
      obtain ⟨q, hq, rfl⟩ := List.mem_map.1 he
      obtain ⟨i, hi, rfl⟩ := List.mem_map.1 hq
      exact (hp i (List.mem_range.1 hi)).2.2
end
end Go.Proofs.YtljkneajdndgjabGreat
namespace Go.Proofs.YtljkneajdndgjabGreat.Facts.antiPartners
open Go.ChangeShapes Go.WideShapes Go.ChangeAt Go.RowKit
theorem c1 : (Rows.antiPartnersRow.inPlace == Tryz.prog.inPlace 7) = true := by kernel_rfl
theorem c2 : (Rows.antiPartnersRow.unfollowed == Tryz.prog.unfollowed 7) = true := by kernel_rfl
theorem c3 : (Rows.antiPartnersRow.recurses == Tryz.prog.recurses 7) = true := by kernel_rfl
theorem c4 : (Rows.antiPartnersRow.named == Tryz.prog.varsNamed 7) = true := by kernel_rfl
theorem c5 : laidOutB Tryz.prog = true := by kernel_rfl
theorem c6 : mapsRowed Tryz.prog = true := by kernel_rfl
theorem closed : joinedFacts Tryz.prog 7 Tryz.f7 Rows.antiPartnersSpec Rows.antiPartnersRow = true := by
  unfold joinedFacts
  rw [c1, c2, c3, c4, c5, c6]
  kernel_rfl
end Go.Proofs.YtljkneajdndgjabGreat.Facts.antiPartners
