/-
  A helper of ours: no claim of its own. Lists of messages in memory, and ones that come in.
-/
import Derived.Test.YtajelkkiijdegaaGreatArgV
import Derived.Test.YtajelkkiijdegaaGreatFolS
set_option linter.unusedVariables false
set_option linter.unusedSimpArgs false
namespace Go.Proofs.YtajelkkiijdegaaGreat
open Go.RowKit Go.Deep Go.ChangeShapes
/-- A message: the slice of its row; the message. -/
abbrev Vm := Value × PM
def pms (L : List Vm) : List PM := L.map Prod.snd
def mc1 (p : Vm) : List Value := [.int .i64 p.2.1.1, .int .i64 p.2.1.2.1, .int .i64 p.2.1.2.2.1, .int .i64 p.2.1.2.2.2, p.1]
def mc (L : List Vm) : List Value := L.flatMap mc1
theorem mc_length (L : List Vm) : (mc L).length = L.length * 5 := by
  induction L with
  | nil => rfl
  | cons p r ih => simp only [mc, mc1, List.flatMap_cons, List.length_append, List.length_cons, List.length_nil] at ih ⊢; omega
theorem mc_get : ∀ (L : List Vm) (i : Nat) (p : Vm), L[i]? = some p → ∀ j v, (mc1 p)[j]? = some v → (mc L)[i * 5 + j]? = some v
  | q :: r, 0, p, h, j, v, hv => by
    simp at h; subst h
    have hj : j < (mc1 q).length := (List.getElem?_eq_some_iff.1 hv).1
    rw [show mc (q :: r) = mc1 q ++ mc r by simp [mc], List.getElem?_append_left (by omega), show 0 * 5 + j = j by omega]; exact hv
  | q :: r, i + 1, p, h, j, v, hv => by
    have := mc_get r i p (by simpa using h) j v hv
    rw [show mc (q :: r) = mc1 q ++ mc r by simp [mc], show (i + 1) * 5 + j = (mc1 q).length + (i * 5 + j) by simp [mc1]; omega, List.getElem?_append_right (by omega), Nat.add_sub_cancel_left]
    exact this
theorem mc_at (L : List Vm) (j : Nat) (u : Value) (h : (mc L)[j]? = some u) : ∃ i q k, L[i]? = some q ∧ j = i * 5 + k ∧ (mc1 q)[k]? = some u := by
  have hj : j < L.length * 5 := by
    rcases Nat.lt_or_ge j (L.length * 5) with h1 | h1
    · exact h1
    · rw [List.getElem?_eq_none (by rw [mc_length]; exact h1)] at h; cases h
  have hi : j / 5 < L.length := by omega
  refine ⟨j / 5, L[j / 5], j % 5, List.getElem?_eq_getElem hi, by omega, ?_⟩
  have hk : j % 5 < (mc1 L[j / 5]).length := by simp [mc1]; omega
  have := mc_get L (j / 5) _ (List.getElem?_eq_getElem hi) (j % 5) _ (List.getElem?_eq_getElem hk)
  rw [show j / 5 * 5 + j % 5 = j by omega, h] at this
  rw [List.getElem?_eq_getElem hk]
  exact this.symm
def Mw (w : World) (S : List Nat) (v : Value) (L : List Vm) : Prop := Sl w S 5 v L.length (mc L) ∧ ∀ p ∈ L, Rw w S p.1 p.2.2
theorem Mw.ext {w w' : World} {S : List Nat} {v : Value} {L : List Vm} (h : Mw w S v L) (k : Ext w w') : Mw w' S v L := ⟨Sl.ext h.1 k, fun p hp => Sl.ext (h.2 p hp) k⟩
theorem mw_form {w : World} {S : List Nat} {v : Value} {L : List Vm} (h : Mw w S v L) : ∃ A cap, v = .slice A L.length cap ∧ L.length ≤ cap ∧ cap ≤ maxLen ∧
    ∀ (i : Nat) (p : Vm), L[i]? = some p → ∃ b o, A = some ⟨b, o, none⟩ ∧ b ∉ S ∧ b < w.heap.size ∧ w.cell? ⟨b, o + i * 5, none⟩ = some (.int .i64 p.2.1.1) ∧ w.cell? ⟨b, o + i * 5 + 1, none⟩ = some (.int .i64 p.2.1.2.1) ∧ w.cell? ⟨b, o + i * 5 + 2, none⟩ = some (.int .i64 p.2.1.2.2.1) ∧ w.cell? ⟨b, o + i * 5 + 3, none⟩ = some (.int .i64 p.2.1.2.2.2) ∧ w.cell? ⟨b, o + i * 5 + 4, none⟩ = some p.1 := by
  obtain ⟨⟨A, cap, rfl, h1, h2, h3, h4⟩, -⟩ := h
  refine ⟨A, cap, rfl, h1, h2, fun i p hp => ?_⟩
  have hg := mc_get L i p hp
  rcases h4 with h4 | ⟨b, o, rfl, hb, hc⟩
  · have := hg 0 _ rfl; rw [h4] at this; cases this
  · have c0 := hc _ _ (hg 0 _ rfl)
    have c1 := hc _ _ (hg 1 _ rfl)
    have c2 := hc _ _ (hg 2 _ rfl)
    have c3 := hc _ _ (hg 3 _ rfl)
    have c4 := hc _ _ (hg 4 _ rfl)
    exact ⟨b, o, rfl, hb, block_lt_of_cell c0, c0, c1, c2, c3, c4⟩
def inM (m : PM) : Prop := (inI m.1.1 ∧ inI m.1.2.1 ∧ inI m.1.2.2.1 ∧ inI m.1.2.2.2) ∧ ∀ a ∈ m.2, inI a.2.1
section
variable {H : Type} {enc : TypeId × Value → H} {P : Program} {w : World} {base fuel : Nat} {held : Bool}
theorem open_msgs {t eo e : TypeId} {f0 f1 f2 f3 f4 g0 g1 g2 : Field} {v : Value} {x : DataW H × List MemPlace} (ht : P.underlying t = some (.slice eo)) (hs : P.underlying eo = some (.struct #[f0, f1, f2, f3, f4]))
    (hC : P.cellsOf eo = 5) (o0 : f0.offset = 0) (o1 : f1.offset = 1) (o2 : f2.offset = 2) (o3 : f3.offset = 3) (o4 : f4.offset = 4)
    (c0 : P.cellsOf f0.type = 1) (c1 : P.cellsOf f1.type = 1) (c2 : P.cellsOf f2.type = 1) (c3 : P.cellsOf f3.type = 1) (c4 : P.cellsOf f4.type = 1)
    (u0 : P.underlying f0.type = some (.int .i64)) (u1 : P.underlying f1.type = some (.int .i64)) (u2 : P.underlying f2.type = some (.int .i64)) (u3 : P.underlying f3.type = some (.int .i64)) (u4 : P.underlying f4.type = some (.slice e))
    (he : P.underlying e = some (.struct #[g0, g1, g2])) (ce : P.cellsOf e = 3) (p0 : g0.offset = 0) (p1 : g1.offset = 1) (p2 : g2.offset = 2) (d0 : P.cellsOf g0.type = 1) (d1 : P.cellsOf g1.type = 1) (d2 : P.cellsOf g2.type = 1)
    (y0 : P.underlying g0.type = some (.int .i64)) (y1 : P.underlying g1.type = some (.int .i64)) (y2 : P.underlying g2.type = some .string)
    (h : DataW.trod enc P w base (fun _ => true) held fuel t [v] = some x) : ∃ L : List Vm, L.length = sliceLen x.1 ∧ Mw w [] v L ∧ ∀ p ∈ L, inM p.2 := by
  rcases open_slice ht h with ⟨h1, rfl⟩ | ⟨a, len, cap, m, n, D, Pl, h1, _, hl, hm, hmm, rfl, hel⟩
  · obtain rfl : v = .slice none 0 0 := by simpa using h1
    exact ⟨[], rfl, ⟨Sl.nil _ _ _, by simp⟩, by simp⟩
  · obtain rfl : v = .slice (some a) len cap := by simpa using h1
    simp only [if_true] at hmm
    have each : ∀ i, i < len → ∃ p : Vm, (∀ k u, (mc1 p)[k]? = some u → w.cell? ((a.add (i * 5)).add k) = some u) ∧ Rw w [] p.1 p.2.2 ∧ inM p.2 := by
      intro i hi
      obtain ⟨cs, hc, htr⟩ := hel i (by omega)
      rw [hC] at hc
      obtain ⟨_, hlen, hat⟩ := World.cells?_some hc
      obtain ⟨xs, k, _, _, _, hxl, hf⟩ := DataW.trod_struct hs htr
      match cs, hlen with
      | [w0, w1, w2, w3, w4], _ =>
        match xs, hxl with
        | [z0, z1, z2, z3, z4], _ =>
          have q0 := hf 0 f0 rfl
          have q1 := hf 1 f1 rfl
          have q2 := hf 2 f2 rfl
          have q3 := hf 3 f3 rfl
          have q4 := hf 4 f4 rfl
          rw [o0, c0] at q0
          rw [o1, c1] at q1
          rw [o2, c2] at q2
          rw [o3, c3] at q3
          rw [o4, c4] at q4
          obtain ⟨a0, e0, _, k0⟩ := DataW.trod_int u0 (show DataW.trod enc P w base (fun _ => true) held k f0.type [w0] = some _ from by simpa using q0)
          obtain ⟨a1, e1, _, k1⟩ := DataW.trod_int u1 (show DataW.trod enc P w base (fun _ => true) held k f1.type [w1] = some _ from by simpa using q1)
          obtain ⟨a2, e2, _, k2⟩ := DataW.trod_int u2 (show DataW.trod enc P w base (fun _ => true) held k f2.type [w2] = some _ from by simpa using q2)
          obtain ⟨a3, e3, _, k3⟩ := DataW.trod_int u3 (show DataW.trod enc P w base (fun _ => true) held k f3.type [w3] = some _ from by simpa using q3)
          simp at e0 e1 e2 e3
          subst e0; subst e1; subst e2; subst e3
          obtain ⟨l, _, hl, hq⟩ := open_row u4 he ce p0 p1 p2 d0 d1 d2 y0 y1 y2 (show DataW.trod enc P w base (fun _ => true) held k f4.type [w4] = some _ from by simpa using q4)
          refine ⟨(w4, ((a0, a1, a2, a3), l)), fun k u hu => ?_, hl, ⟨wf_i64 k0, wf_i64 k1, wf_i64 k2, wf_i64 k3⟩, hq⟩
          have hk : k < 5 := by simpa [mc1] using (List.getElem?_eq_some_iff.1 hu).1
          rw [hat k hk]
          exact hu
    obtain ⟨p, hp⟩ := choose_lt (α := Vm) (p := fun i p => (∀ k u, (mc1 p)[k]? = some u → w.cell? ((a.add (i * 5)).add k) = some u) ∧ Rw w [] p.1 p.2.2 ∧ inM p.2) each
    refine ⟨(List.range len).map p, by simp [sliceLen], ⟨⟨some a, cap, by simp, by simpa using hl, hm, by rw [mc_length], ?_⟩, ?_⟩, ?_⟩
    · by_cases h0 : len = 0
      · left; subst h0; rfl
      right
      have hz := (hp 0 (by omega)).1 0 _ rfl
      obtain ⟨b, o, rfl⟩ := addr_plain (i := 0) (a := a) (by
        have e0 : (a.add (0 * 5)).add 0 = a.add 0 := by rw [Nat.zero_mul]; exact (show (a.add 0).add 0 = a.add (0 + 0) from Go.Deep.add_add ..)
        rw [e0] at hz; exact hz) rfl
      refine ⟨b, o, rfl, by simp, fun j u hu => ?_⟩
      obtain ⟨i, q, k, hq, rfl, hk⟩ := mc_at _ j u hu
      have hi : i < len := by
        rcases Nat.lt_or_ge i len with h | h
        · exact h
        · rw [List.getElem?_eq_none (by simpa using h)] at hq; cases hq
      have hq' : q = p i := by simpa [hi] using hq.symm
      subst hq'
      have := (hp i hi).1 k u hk
      rw [add_plain, add_plain, Nat.add_assoc] at this
      exact this
    · intro q hq
      obtain ⟨i, hi, rfl⟩ := List.mem_map.1 hq
      exact (hp i (List.mem_range.1 hi)).2.1
    · intro q hq
      obtain ⟨i, hi, rfl⟩ := List.mem_map.1 hq
      exact (hp i (List.mem_range.1 hi)).2.2
end
end Go.Proofs.YtajelkkiijdegaaGreat
