/-
  A helper of ours: no claim of its own. Layer 15 (queue): a queue as the list of what waits; scripts that come in.
-/
import Derived.Test.YtjibolpegijhkaaQueK
set_option linter.unusedVariables false
set_option linter.unusedSimpArgs false
namespace Go.Proofs.Ytjibolpegijhkaa
open Go.RowKit Go.Deep Go.ChangeShapes
/-- What waits, in the order in which it came. -/
def QL (w : World) (B q : Nat) (L : List Jp) (n : Int) : Prop := ∃ P, ths P = L ∧ QS w B q P n
theorem ths_len {P : List It} {L : List Jp} (h : ths P = L) : P.length = L.length := by rw [← h]; simp [ths]
theorem QL.ext {w w' : World} {B q : Nat} {L : List Jp} {n : Int} (h : QL w B q L n) (k : Ext w w') : QL w' B q L n := by
  obtain ⟨P, h1, h2⟩ := h
  exact ⟨P, h1, h2.ext k⟩
theorem QL.ft {w w' : World} {B q : Nat} {L : List Jp} {n : Int} {Ts : List TypeId} (h : QL w B q L n) (k : Ft B Ts w w') (h1 : 47 ∉ Ts) (h2 : 49 ∉ Ts) : QL w' B q L n := by
  obtain ⟨P, k1, k2⟩ := h
  exact ⟨P, k1, k2.ft k h1 h2⟩
theorem QL.lt {w : World} {B q : Nat} {L : List Jp} {n : Int} (h : QL w B q L n) : q < w.heap.size ∧ B ≤ q := by
  obtain ⟨P, _, h⟩ := h
  exact h.lt
theorem lpeek_c (B q : Nat) (L : List Jp) (n : Int) (w : World) (h : QL w B q L n) : Calls Try.prog 12 #[.pointer (some ⟨q, 0, none⟩)] w fun e w' => e = .returned (.tuple #[jm (hdL L), .bool (decide (0 < L.length))]) ∧ Ext w w' := by
  obtain ⟨P, h1, h2⟩ := h
  have := peek_c B q P n w h2
  rw [ths_len h1, h1] at this
  exact this
theorem llen_c (B q : Nat) (L : List Jp) (n : Int) (w : World) (h : QL w B q L n) : Calls Try.prog 14 #[.pointer (some ⟨q, 0, none⟩)] w fun e w' => e = .returned (.int .i64 L.length) ∧ Ext w w' := by
  obtain ⟨P, h1, h2⟩ := h
  have := qlen_c B q P n w h2
  rw [ths_len h1] at this
  exact this
theorem lpop_c (B q : Nat) (L : List Jp) (hL : L.length ≤ 1000000) (n : Int) (w : World) (hB : B ≤ w.heap.size) (h : QL w B q L n) : Calls Try.prog 10 #[.pointer (some ⟨q, 0, none⟩)] w fun e w' => e = .returned (.tuple #[jm (hdL L), .bool (decide (0 < L.length))]) ∧ QL w' B q (popL L) n ∧ Ft B Tq w w' := by
  obtain ⟨P, h1, h2⟩ := h
  have := pop_c B q P (by rw [ths_len h1]; exact hL) n w hB h2
  rw [ths_len h1, h1] at this
  exact this
theorem lpush_c (B q : Nat) (L l : List Jp) (hL : L.length + l.length ≤ 1000000) (n : Int) (hn0 : 0 ≤ n) (hn9 : n ≤ 1000000000) (z : Value) (w : World) (h : QL w B q L n) (hz : ∀ w', Ft B Tq w w' → Jw w' [] z l) : Calls Try.prog 9 #[.pointer (some ⟨q, 0, none⟩), z] w fun e w' => e = .returned (.tuple #[]) ∧ QL w' B q (L ++ l) (n + l.length) ∧ Ft B Tq w w' := by
  obtain ⟨P, h1, h2⟩ := h
  have := push_c B q P l (by rw [ths_len h1]; exact hL) n hn0 hn9 z w h2 hz
  rw [h1] at this
  exact this
theorem jone_form {w : World} {v : Value} {x : Jp} (h : Jw w [] v [x]) : ∃ A cap, v = .slice A 1 cap := by obtain ⟨A, cap, e, _⟩ := h; exact ⟨A, cap, e⟩
/-- A step of a script: its kind, and a jump. -/
abbrev Op3 := Int × Jp
def oc1 (p : Op3) : List Value := [.int .i64 p.1, .int .i64 p.2.1, .int .i64 p.2.2]
def oc (L : List Op3) : List Value := L.flatMap oc1
theorem oc_length (L : List Op3) : (oc L).length = L.length * 3 := by
  induction L with
  | nil => rfl
  | cons p r ih => simp only [oc, oc1, List.flatMap_cons, List.length_append, List.length_cons, List.length_nil] at ih ⊢; omega
theorem oc_get : ∀ (L : List Op3) (i : Nat) (p : Op3), L[i]? = some p → ∀ j v, (oc1 p)[j]? = some v → (oc L)[i * 3 + j]? = some v
  | q :: r, 0, p, h, j, v, hv => by
    simp at h; subst h
    have hj : j < (oc1 q).length := (List.getElem?_eq_some_iff.1 hv).1
    rw [show oc (q :: r) = oc1 q ++ oc r by simp [oc], List.getElem?_append_left (by omega), show 0 * 3 + j = j by omega]; exact hv
  | q :: r, i + 1, p, h, j, v, hv => by
    have := oc_get r i p (by simpa using h) j v hv
    rw [show oc (q :: r) = oc1 q ++ oc r by simp [oc], show (i + 1) * 3 + j = (oc1 q).length + (i * 3 + j) by simp [oc1]; omega, List.getElem?_append_right (by omega), Nat.add_sub_cancel_left]
    exact this
theorem oc_at (L : List Op3) (j : Nat) (u : Value) (h : (oc L)[j]? = some u) : ∃ i q k, L[i]? = some q ∧ j = i * 3 + k ∧ (oc1 q)[k]? = some u := by
  have hj : j < L.length * 3 := by
    rcases Nat.lt_or_ge j (L.length * 3) with h1 | h1
    · exact h1
    · rw [List.getElem?_eq_none (by rw [oc_length]; exact h1)] at h; cases h
  have hi : j / 3 < L.length := by omega
  refine ⟨j / 3, L[j / 3], j % 3, List.getElem?_eq_getElem hi, by omega, ?_⟩
  have hk : j % 3 < (oc1 L[j / 3]).length := by simp [oc1]; omega
  have := oc_get L (j / 3) _ (List.getElem?_eq_getElem hi) (j % 3) _ (List.getElem?_eq_getElem hk)
  rw [show j / 3 * 3 + j % 3 = j by omega, h] at this
  rw [List.getElem?_eq_getElem hk]
  exact this.symm
abbrev Ow (w : World) (S : List Nat) (v : Value) (L : List Op3) : Prop := Sl w S 3 v L.length (oc L)
theorem ow_form {w : World} {S : List Nat} {v : Value} {L : List Op3} (h : Ow w S v L) : ∃ A cap, v = .slice A L.length cap ∧ L.length ≤ cap ∧ cap ≤ maxLen ∧
    ∀ (i : Nat) (p : Op3), L[i]? = some p → ∃ b o, A = some ⟨b, o, none⟩ ∧ b ∉ S ∧ b < w.heap.size ∧ w.cell? ⟨b, o + i * 3, none⟩ = some (.int .i64 p.1) ∧ w.cell? ⟨b, o + i * 3 + 1, none⟩ = some (.int .i64 p.2.1) ∧ w.cell? ⟨b, o + i * 3 + 1 + 1, none⟩ = some (.int .i64 p.2.2) := by
  obtain ⟨A, cap, rfl, h1, h2, h3, h4⟩ := h
  refine ⟨A, cap, rfl, h1, h2, fun i p hp => ?_⟩
  have hg := oc_get L i p hp
  rcases h4 with h4 | ⟨b, o, rfl, hb, hc⟩
  · have := hg 0 _ rfl; rw [h4] at this; cases this
  · have c0 := hc _ _ (hg 0 _ rfl)
    have c1 := hc _ _ (hg 1 _ rfl)
    have c2 := hc _ _ (hg 2 _ rfl)
    exact ⟨b, o, rfl, hb, block_lt_of_cell c0, c0, c1, c2⟩
section
variable {H : Type} {enc : TypeId × Value → H} {P : Program} {w : World} {base fuel : Nat} {held : Bool}
theorem open_ops {t e : TypeId} {f0 f1 s0 s1 : Field} {v : Value} {x : DataW H × List MemPlace} (ht : P.underlying t = some (.slice e)) (he : P.underlying e = some (.struct #[f0, f1]))
    (ce : P.cellsOf e = 3) (o0 : f0.offset = 0) (o1 : f1.offset = 1) (c0 : P.cellsOf f0.type = 1) (c1 : P.cellsOf f1.type = 2)
    (u0 : P.underlying f0.type = some (.int .i64)) (u1 : P.underlying f1.type = some (.struct #[s0, s1])) (so0 : s0.offset = 0) (so1 : s1.offset = 1) (sc0 : P.cellsOf s0.type = 1) (sc1 : P.cellsOf s1.type = 1) (v0 : P.underlying s0.type = some (.int .i64)) (v1 : P.underlying s1.type = some (.int .i64))
    (h : DataW.trod enc P w base (fun _ => true) held fuel t [v] = some x) : ∃ L : List Op3, L.length = sliceLen x.1 ∧ Ow w [] v L := by
  rcases open_slice ht h with ⟨h1, rfl⟩ | ⟨a, len, cap, m, n, D, Pl, h1, _, hl, hm, hmm, rfl, hel⟩
  · obtain rfl : v = .slice none 0 0 := by simpa using h1
    exact ⟨[], rfl, Sl.nil _ _ _⟩
  · obtain rfl : v = .slice (some a) len cap := by simpa using h1
    simp only [if_true] at hmm
    have each : ∀ i, i < len → ∃ p : Op3, ∀ k u, (oc1 p)[k]? = some u → w.cell? ((a.add (i * 3)).add k) = some u := by
      intro i hi
      obtain ⟨cs, hc, htr⟩ := hel i (by omega)
      rw [ce] at hc
      obtain ⟨_, hlen, hat⟩ := World.cells?_some hc
      obtain ⟨xs, k, _, hx2, _, hxl, hf⟩ := DataW.trod_struct he htr
      match cs, hlen with
      | [w0, w1, w2], _ =>
        match xs, hxl with
        | [z0, z1], _ =>
          have q0 := hf 0 f0 rfl
          have q1 := hf 1 f1 rfl
          rw [o0, c0] at q0
          rw [o1, c1] at q1
          obtain ⟨a0, e0, _, _⟩ := DataW.trod_int u0 (show DataW.trod enc P w base (fun _ => true) held k f0.type [w0] = some _ from by simpa using q0)
          obtain ⟨ys, k2, _, _, _, yl, hg⟩ := DataW.trod_struct u1 (show DataW.trod enc P w base (fun _ => true) held k f1.type [w1, w2] = some _ from by simpa using q1)
          obtain ⟨z3, z4, rfl⟩ : ∃ z3 z4, ys = [z3, z4] := by
            match ys, yl with
            | [z3, z4], _ => exact ⟨z3, z4, rfl⟩
          have q3 := hg 0 s0 rfl
          have q4 := hg 1 s1 rfl
          rw [so0, sc0] at q3
          rw [so1, sc1] at q4
          obtain ⟨a1, e1, _, _⟩ := DataW.trod_int v0 q3
          obtain ⟨a2, e2, _, _⟩ := DataW.trod_int v1 q4
          simp at e0 e1 e2
          subst e0; subst e1; subst e2
          refine ⟨(a0, (a1, a2)), fun k u hu => ?_⟩
          have hk : k < 3 := by simpa [oc1] using (List.getElem?_eq_some_iff.1 hu).1
          rw [hat k hk]
          exact hu
    obtain ⟨p, hp⟩ := choose_lt (α := Op3) (p := fun i p => ∀ k u, (oc1 p)[k]? = some u → w.cell? ((a.add (i * 3)).add k) = some u) each
    refine ⟨(List.range len).map p, by simp [sliceLen], ⟨some a, cap, by simp, by simpa using hl, hm, by rw [oc_length], ?_⟩⟩
    by_cases h0 : len = 0
    · left; subst h0; rfl
    right
    have hz := hp 0 (by omega) 0 _ rfl
    obtain ⟨b, o, rfl⟩ := addr_plain (i := 0) (a := a) (by
      have e0 : (a.add (0 * 3)).add 0 = a.add 0 := by rw [Nat.zero_mul]; exact (show (a.add 0).add 0 = a.add (0 + 0) from Go.Deep.add_add ..)
      rw [e0] at hz; exact hz) rfl
    refine ⟨b, o, rfl, by simp, fun j u hu => ?_⟩
    obtain ⟨i, q, k, hq, rfl, hk⟩ := oc_at _ j u hu
    have hi : i < len := by
      rcases Nat.lt_or_ge i len with h | h
      · exact h
      · rw [List.getElem?_eq_none (by simpa using h)] at hq; cases hq
    have hq' : q = p i := by simpa [hi] using hq.symm
    subst hq'
    have := hp i hi k u hk
    rw [add_plain, add_plain, Nat.add_assoc] at this
    exact this
end
end Go.Proofs.Ytjibolpegijhkaa
