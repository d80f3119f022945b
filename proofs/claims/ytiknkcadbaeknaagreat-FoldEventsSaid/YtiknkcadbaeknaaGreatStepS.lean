/-
  A helper of ours: no claim of its own. Layer 9 (step): step functions as lists of jumps: their values, their one form, and what is told by values at places. No program in it.
-/
import Derived.Test.YtiknkcadbaeknaaGreatRowA
import Derived.Test.YtiknkcadbaeknaaGreatFolS
import Derived.Test.YtiknkcadbaeknaaGreatMapV
import Derived.Test.YtiknkcadbaeknaaGreatMem
set_option linter.unusedVariables false
set_option linter.unusedSimpArgs false
namespace Go.Proofs.YtiknkcadbaeknaaGreat
open Go.RowKit Go.Deep Go.ChangeShapes
/-- A message: the slice of its row; the message. -/
abbrev Vm := Value × PM
def pms (L : List Vm) : List PM := L.map Prod.snd
def mc1 (p : Vm) : List Value := [.int .i64 p.2.1.1, .int .i64 p.2.1.2.1, .int .i64 p.2.1.2.2.1, .int .i64 p.2.1.2.2.2, p.1]
def mc (L : List Vm) : List Value := L.flatMap mc1
theorem mc_length (L : List Vm) : (mc L).length = L.length * 5 := by
  induction L with
  | nil => rfl
  | cons p r ih => simp only [mc, mc1, List.flatMap_cons, List.length_append, List.length_cons, List.length_nil] at ih ⊢; omega
theorem mc_get : ∀ (L : List Vm) (i : Nat) (p : Vm), L[i]? = some p → ∀ j v, (mc1 p)[j]? = some v → (mc L)[i * 5 + j]? = some v
  | q :: r, 0, p, h, j, v, hv => by
    simp at h; subst h
    have hj : j < (mc1 q).length := (List.getElem?_eq_some_iff.1 hv).1
    rw [show mc (q :: r) = mc1 q ++ mc r by simp [mc], List.getElem?_append_left (by omega), show 0 * 5 + j = j by omega]; exact hv
  | q :: r, i + 1, p, h, j, v, hv => by
    have := mc_get r i p (by simpa using h) j v hv
    rw [show mc (q :: r) = mc1 q ++ mc r by simp [mc], show (i + 1) * 5 + j = (mc1 q).length + (i * 5 + j) by simp [mc1]; omega, List.getElem?_append_right (by omega), Nat.add_sub_cancel_left]
    exact this
theorem mc_at (L : List Vm) (j : Nat) (u : Value) (h : (mc L)[j]? = some u) : ∃ i q k, L[i]? = some q ∧ j = i * 5 + k ∧ (mc1 q)[k]? = some u := by
  have hj : j < L.length * 5 := by
    rcases Nat.lt_or_ge j (L.length * 5) with h1 | h1
    · exact h1
    · rw [List.getElem?_eq_none (by rw [mc_length]; exact h1)] at h; cases h
  have hi : j / 5 < L.length := by omega
  refine ⟨j / 5, L[j / 5], j % 5, List.getElem?_eq_getElem hi, by omega, ?_⟩
  have hk : j % 5 < (mc1 L[j / 5]).length := by simp [mc1]; omega
  have := mc_get L (j / 5) _ (List.getElem?_eq_getElem hi) (j % 5) _ (List.getElem?_eq_getElem hk)
  rw [show j / 5 * 5 + j % 5 = j by omega, h] at this
  rw [List.getElem?_eq_getElem hk]
  exact this.symm
def Mw (w : World) (S : List Nat) (v : Value) (L : List Vm) : Prop := Sl w S 5 v L.length (mc L) ∧ ∀ p ∈ L, Rw w S p.1 p.2.2
theorem Mw.ext {w w' : World} {S : List Nat} {v : Value} {L : List Vm} (h : Mw w S v L) (k : Ext w w') : Mw w' S v L := ⟨Sl.ext h.1 k, fun p hp => Sl.ext (h.2 p hp) k⟩
theorem mw_form {w : World} {S : List Nat} {v : Value} {L : List Vm} (h : Mw w S v L) : ∃ A cap, v = .slice A L.length cap ∧ L.length ≤ cap ∧ cap ≤ maxLen ∧
    ∀ (i : Nat) (p : Vm), L[i]? = some p → ∃ b o, A = some ⟨b, o, none⟩ ∧ b ∉ S ∧ b < w.heap.size ∧ w.cell? ⟨b, o + i * 5, none⟩ = some (.int .i64 p.2.1.1) ∧ w.cell? ⟨b, o + i * 5 + 1, none⟩ = some (.int .i64 p.2.1.2.1) ∧ w.cell? ⟨b, o + i * 5 + 2, none⟩ = some (.int .i64 p.2.1.2.2.1) ∧ w.cell? ⟨b, o + i * 5 + 3, none⟩ = some (.int .i64 p.2.1.2.2.2) ∧ w.cell? ⟨b, o + i * 5 + 4, none⟩ = some p.1 := by
  obtain ⟨⟨A, cap, rfl, h1, h2, h3, h4⟩, -⟩ := h
  refine ⟨A, cap, rfl, h1, h2, fun i p hp => ?_⟩
  have hg := mc_get L i p hp
  rcases h4 with h4 | ⟨b, o, rfl, hb, hc⟩
  · have := hg 0 _ rfl; rw [h4] at this; cases this
  · have c0 := hc _ _ (hg 0 _ rfl)
    have c1 := hc _ _ (hg 1 _ rfl)
    have c2 := hc _ _ (hg 2 _ rfl)
    have c3 := hc _ _ (hg 3 _ rfl)
    have c4 := hc _ _ (hg 4 _ rfl)
    exact ⟨b, o, rfl, hb, block_lt_of_cell c0, c0, c1, c2, c3, c4⟩
def inM (m : PM) : Prop := (inI m.1.1 ∧ inI m.1.2.1 ∧ inI m.1.2.2.1 ∧ inI m.1.2.2.2) ∧ ∀ a ∈ m.2, inI a.2.1
section
variable {H : Type} {enc : TypeId × Value → H} {P : Program} {w : World} {base fuel : Nat} {held : Bool}
theorem open_msgs {t eo e : TypeId} {f0 f1 f2 f3 f4 g0 g1 g2 : Field} {v : Value} {x : DataW H × List MemPlace} (ht : P.underlying t = some (.slice eo)) (hs : P.underlying eo = some (.struct #[f0, f1, f2, f3, f4]))
    (hC : P.cellsOf eo = 5) (o0 : f0.offset = 0) (o1 : f1.offset = 1) (o2 : f2.offset = 2) (o3 : f3.offset = 3) (o4 : f4.offset = 4)
    (c0 : P.cellsOf f0.type = 1) (c1 : P.cellsOf f1.type = 1) (c2 : P.cellsOf f2.type = 1) (c3 : P.cellsOf f3.type = 1) (c4 : P.cellsOf f4.type = 1)
    (u0 : P.underlying f0.type = some (.int .i64)) (u1 : P.underlying f1.type = some (.int .i64)) (u2 : P.underlying f2.type = some (.int .i64)) (u3 : P.underlying f3.type = some (.int .i64)) (u4 : P.underlying f4.type = some (.slice e))
    (he : P.underlying e = some (.struct #[g0, g1, g2])) (ce : P.cellsOf e = 3) (p0 : g0.offset = 0) (p1 : g1.offset = 1) (p2 : g2.offset = 2) (d0 : P.cellsOf g0.type = 1) (d1 : P.cellsOf g1.type = 1) (d2 : P.cellsOf g2.type = 1)
    (y0 : P.underlying g0.type = some (.int .i64)) (y1 : P.underlying g1.type = some (.int .i64)) (y2 : P.underlying g2.type = some .string)
    (h : DataW.trod enc P w base (fun _ => true) held fuel t [v] = some x) : ∃ L : List Vm, L.length = sliceLen x.1 ∧ Mw w [] v L ∧ ∀ p ∈ L, inM p.2 := by
  rcases open_slice ht h with ⟨h1, rfl⟩ | ⟨a, len, cap, m, n, D, Pl, h1, _, hl, hm, hmm, rfl, hel⟩
  · obtain rfl : v = .slice none 0 0 := by simpa using h1
    exact ⟨[], rfl, ⟨Sl.nil _ _ _, by simp⟩, by simp⟩
  · obtain rfl : v = .slice (some a) len cap := by simpa using h1
    simp only [if_true] at hmm
    have each : ∀ i, i < len → ∃ p : Vm, (∀ k u, (mc1 p)[k]? = some u → w.cell? ((a.add (i * 5)).add k) = some u) ∧ Rw w [] p.1 p.2.2 ∧ inM p.2 := by
      intro i hi
      obtain ⟨cs, hc, htr⟩ := hel i (by omega)
      rw [hC] at hc
      obtain ⟨_, hlen, hat⟩ := World.cells?_some hc
      obtain ⟨xs, k, _, _, _, hxl, hf⟩ := DataW.trod_struct hs htr
      match cs, hlen with
      | [w0, w1, w2, w3, w4], _ =>
        match xs, hxl with
        | [z0, z1, z2, z3, z4], _ =>
          have q0 := hf 0 f0 rfl
          have q1 := hf 1 f1 rfl
          have q2 := hf 2 f2 rfl
          have q3 := hf 3 f3 rfl
          have q4 := hf 4 f4 rfl
          rw [o0, c0] at q0
          rw [o1, c1] at q1
          rw [o2, c2] at q2
          rw [o3, c3] at q3
          rw [o4, c4] at q4
          obtain ⟨a0, e0, _, k0⟩ := DataW.trod_int u0 (show DataW.trod enc P w base (fun _ => true) held k f0.type [w0] = some _ from by simpa using q0)
          obtain ⟨a1, e1, _, k1⟩ := DataW.trod_int u1 (show DataW.trod enc P w base (fun _ => true) held k f1.type [w1] = some _ from by simpa using q1)
          obtain ⟨a2, e2, _, k2⟩ := DataW.trod_int u2 (show DataW.trod enc P w base (fun _ => true) held k f2.type [w2] = some _ from by simpa using q2)
          obtain ⟨a3, e3, _, k3⟩ := DataW.trod_int u3 (show DataW.trod enc P w base (fun _ => true) held k f3.type [w3] = some _ from by simpa using q3)
          simp at e0 e1 e2 e3
          subst e0; subst e1; subst e2; subst e3
          obtain ⟨l, _, hl, hq⟩ := open_row u4 he ce p0 p1 p2 d0 d1 d2 y0 y1 y2 (show DataW.trod enc P w base (fun _ => true) held k f4.type [w4] = some _ from by simpa using q4)
          refine ⟨(w4, ((a0, a1, a2, a3), l)), fun k u hu => ?_, hl, ⟨wf_i64 k0, wf_i64 k1, wf_i64 k2, wf_i64 k3⟩, hq⟩
          have hk : k < 5 := by simpa [mc1] using (List.getElem?_eq_some_iff.1 hu).1
          rw [hat k hk]
          exact hu
    obtain ⟨p, hp⟩ := choose_lt (α := Vm) (p := fun i p => (∀ k u, (mc1 p)[k]? = some u → w.cell? ((a.add (i * 5)).add k) = some u) ∧ Rw w [] p.1 p.2.2 ∧ inM p.2) each
    refine ⟨(List.range len).map p, by simp [sliceLen], ⟨⟨some a, cap, by simp, by simpa using hl, hm, by rw [mc_length], ?_⟩, ?_⟩, ?_⟩
    · by_cases h0 : len = 0
      · left; subst h0; rfl
      right
      have hz := (hp 0 (by omega)).1 0 _ rfl
      obtain ⟨b, o, rfl⟩ := addr_plain (i := 0) (a := a) (by
        have e0 : (a.add (0 * 5)).add 0 = a.add 0 := by rw [Nat.zero_mul]; exact (show (a.add 0).add 0 = a.add (0 + 0) from Go.Deep.add_add ..)
        rw [e0] at hz; exact hz) rfl
      refine ⟨b, o, rfl, by simp, fun j u hu => ?_⟩
      obtain ⟨i, q, k, hq, rfl, hk⟩ := mc_at _ j u hu
      have hi : i < len := by
        rcases Nat.lt_or_ge i len with h | h
        · exact h
        · rw [List.getElem?_eq_none (by simpa using h)] at hq; cases hq
      have hq' : q = p i := by simpa [hi] using hq.symm
      subst hq'
      have := (hp i hi).1 k u hk
      rw [add_plain, add_plain, Nat.add_assoc] at this
      exact this
    · intro q hq
      obtain ⟨i, hi, rfl⟩ := List.mem_map.1 hq
      exact (hp i (List.mem_range.1 hi)).2.1
    · intro q hq
      obtain ⟨i, hi, rfl⟩ := List.mem_map.1 hq
      exact (hp i (List.mem_range.1 hi)).2.2
end
end Go.Proofs.YtiknkcadbaeknaaGreat
set_option linter.unusedVariables false
set_option linter.unusedSimpArgs false
namespace Go.Proofs.YtiknkcadbaeknaaGreat
open Go.Maps (Keyed)
section
variable {α : Type} {f : α → Lit × Value} {P : Program} {k : TypeId} {w w' : World} {b n : Nat} {M : List α}
/-- 'v, ok := m[k]'. -/
theorem Mv.lookOk {t e : TypeId} (h : Mv w P k f b n M) (K : Keyed P k) (ht : P.underlying t = some (.map k e)) {z : Value} (hz : (zeroValue e).run P w = .ok z w) {key : Value} {kl : Lit} (hkey : keyOf P k key = some kl) : (Instr.lookup t (.map (some b)) key true).run P w = .ok (.tuple #[((getM f M kl).map fun q => (f q).2).getD z, .bool (getM f M kl).isSome]) w := by
  have hp := h
  obtain ⟨es0, h0, p0⟩ := hp
  obtain ⟨es, h1, h2⟩ := h.at K kl z
  obtain ⟨v, ps, hrun, hv⟩ := h1.look_ok K ht hz (zd := .held z) (zp := []) rfl hkey
  rw [h2] at hv
  unfold anyE at hv
  simp only [Option.some.injEq, Prod.mk.injEq, DataW.held.injEq] at hv
  obtain ⟨v0, ps0, hrun0, hv0⟩ := h0.look_ok K ht hz (zd := .held z) (zp := []) rfl hkey
  have e : Go.Maps.has (DataW.map es0) kl = (getM f M kl).isSome := by
    show es0.any (fun p => p.1.sameKey kl) = _
    rw [any_permM p0, List.any_map, getM, Bool.eq_iff_iff, List.any_eq_true, List.find?_isSome]
    exact Iff.rfl
  rw [hrun] at hrun0
  simp only [Result.ok.injEq, Value.tuple.injEq, and_true] at hrun0
  have e2 : Go.Maps.has (DataW.map es) kl = Go.Maps.has (DataW.map es0) kl := by
    have := congrArg (fun a : Array Value => a[1]?) hrun0
    simpa using this
  rw [hrun, hv.1, e2, e]
end
end Go.Proofs.YtiknkcadbaeknaaGreat
set_option linter.unusedVariables false
set_option linter.unusedSimpArgs false
namespace Go.Proofs.YtiknkcadbaeknaaGreat
open Go.RowKit
/-- A jump: where, and by how much. -/
abbrev Jp := Int × Int
/-- The sum of the jumps that are not above t. -/
def jv : List Jp → Int → Int
  | [], _ => 0
  | j :: r, t => (if j.1 ≤ t then j.2 else 0) + jv r t
/-- The sum of all. -/
def js : List Jp → Int
  | [] => 0
  | j :: r => j.2 + js r
theorem jv_append (f g : List Jp) (t : Int) : jv (f ++ g) t = jv f t + jv g t := by
  induction f with
  | nil => simp [jv]
  | cons a r ih => simp only [List.cons_append, jv, ih]; omega
theorem js_append (f g : List Jp) : js (f ++ g) = js f + js g := by
  induction f with
  | nil => simp [js]
  | cons a r ih => simp only [List.cons_append, js, ih]; omega
theorem jv_snoc (f : List Jp) (j : Jp) (t : Int) : jv (f ++ [j]) t = jv f t + (if j.1 ≤ t then j.2 else 0) := by rw [jv_append]; simp [jv]
theorem js_snoc (f : List Jp) (j : Jp) : js (f ++ [j]) = js f + j.2 := by rw [js_append]; simp [js]
theorem jv_low {f : List Jp} {t : Int} (h : ∀ j ∈ f, t < j.1) : jv f t = 0 := by
  induction f with
  | nil => rfl
  | cons a r ih =>
    have := h a (by simp)
    rw [jv, if_neg (by omega), ih (fun j hj => h j (by simp [hj]))]; omega
theorem jv_high {f : List Jp} {t : Int} (h : ∀ j ∈ f, j.1 ≤ t) : jv f t = js f := by
  induction f with
  | nil => rfl
  | cons a r ih => rw [jv, js, if_pos (h a (by simp)), ih (fun j hj => h j (by simp [hj]))]
theorem jv_perm {f g : List Jp} (h : f.Perm g) (t : Int) : jv f t = jv g t := by
  induction h with
  | nil => rfl
  | cons a _ ih => simp only [jv, ih]
  | swap a b l => simp only [jv]; omega
  | trans _ _ h1 h2 => exact h1.trans h2
theorem jv_bound {f : List Jp} {K : Int} (hK : 0 ≤ K) (h : ∀ j ∈ f, -K ≤ j.2 ∧ j.2 ≤ K) (t : Int) : -(K * f.length) ≤ jv f t ∧ jv f t ≤ K * f.length := by
  induction f with
  | nil => simp [jv]
  | cons a r ih =>
    have h1 := ih (fun j hj => h j (by simp [hj]))
    have h2 := h a (by simp)
    have e : K * ((a :: r).length : Int) = K * (r.length : Int) + K := by rw [List.length_cons]; push_cast; rw [Int.mul_add, Int.mul_one]
    rw [e, jv]
    generalize K * (r.length : Int) = z at *
    split <;> omega
theorem js_bound {f : List Jp} {K : Int} (hK : 0 ≤ K) (h : ∀ j ∈ f, -K ≤ j.2 ∧ j.2 ≤ K) : -(K * f.length) ≤ js f ∧ js f ≤ K * f.length := by
  induction f with
  | nil => simp [js]
  | cons a r ih =>
    have h1 := ih (fun j hj => h j (by simp [hj]))
    have h2 := h a (by simp)
    have e : K * ((a :: r).length : Int) = K * (r.length : Int) + K := by rw [List.length_cons]; push_cast; rw [Int.mul_add, Int.mul_one]
    rw [e, js]
    generalize K * (r.length : Int) = z at *
    omega
/-- Rising. -/
abbrev Asc (f : List Jp) : Prop := f.Pairwise fun a b => a.1 < b.1
/-- In the one form. -/
def Canon (f : List Jp) : Prop := Asc f ∧ ∀ j ∈ f, j.2 ≠ 0
theorem Canon.nil : Canon [] := ⟨List.Pairwise.nil, by simp⟩
theorem Canon.tail {j : Jp} {r : List Jp} (h : Canon (j :: r)) : Canon r := ⟨(List.pairwise_cons.1 h.1).2, fun k hk => h.2 k (by simp [hk])⟩
/-- What is told by values has one form. -/
theorem canon_eq (F : Int) : ∀ f g : List Jp, Canon f → Canon g → (∀ j ∈ f, j.1 < F) → (∀ j ∈ g, j.1 < F) → (∀ t, t < F → jv f t = jv g t) → f = g
  | [], [], _, _, _, _, _ => rfl
  | [], k :: g, _, hg, _, hG, h => by
    exfalso
    have h1 := h k.1 (hG k (by simp))
    have h2 := (List.pairwise_cons.1 hg.1).1
    rw [jv, jv, if_pos (Int.le_refl _), jv_low h2] at h1
    exact hg.2 k (by simp) (by omega)
  | j :: f, [], hf, _, hF, _, h => by
    exfalso
    have h1 := h j.1 (hF j (by simp))
    have h2 := (List.pairwise_cons.1 hf.1).1
    rw [jv, jv, if_pos (Int.le_refl _), jv_low h2] at h1
    exact hf.2 j (by simp) (by omega)
  | j :: f, k :: g, hf, hg, hF, hG, h => by
    have hj := (List.pairwise_cons.1 hf.1).1
    have hk := (List.pairwise_cons.1 hg.1).1
    have hj0 := hf.2 j (by simp)
    have hk0 := hg.2 k (by simp)
    have e1 : j.1 = k.1 := by
      rcases Int.lt_trichotomy j.1 k.1 with h1 | h1 | h1
      · exfalso
        have h2 := h j.1 (hF j (by simp))
        rw [jv, if_pos (Int.le_refl _), jv_low hj, jv_low (f := k :: g) (by intro a ha; rcases List.mem_cons.1 ha with rfl | ha; exact h1; exact Int.lt_trans h1 (hk a ha))] at h2
        omega
      · exact h1
      · exfalso
        have h2 := h k.1 (hG k (by simp))
        rw [jv.eq_2 k.1 k g, if_pos (Int.le_refl _), jv_low hk, jv_low (f := j :: f) (by intro a ha; rcases List.mem_cons.1 ha with rfl | ha; exact h1; exact Int.lt_trans h1 (hj a ha))] at h2
        omega
    have e2 : j.2 = k.2 := by
      have h2 := h j.1 (hF j (by simp))
      rw [jv, jv, if_pos (Int.le_refl _), if_pos (by omega), jv_low hj, jv_low (f := g) (by rw [e1]; exact hk)] at h2
      omega
    have e : j = k := Prod.ext e1 e2
    subst e
    congr 1
    exact canon_eq F f g hf.tail hg.tail (fun a ha => hF a (by simp [ha])) (fun a ha => hG a (by simp [ha])) (fun t ht => by have := h t ht; rw [jv, jv] at this; omega)
/-- The jumps between values at places. -/
def tell (v : Int → Int) : List Int → Int → List Jp
  | [], _ => []
  | p :: r, was => if v p = was then tell v r (v p) else (p, v p - was) :: tell v r (v p)
theorem tell_mem (v : Int → Int) : ∀ (ps : List Int) (was : Int) (j : Jp), j ∈ tell v ps was → j.1 ∈ ps ∧ j.2 ≠ 0
  | [], _, j, h => by simp [tell] at h
  | p :: r, was, j, h => by
    rw [tell] at h
    split at h
    · have := tell_mem v r (v p) j h; exact ⟨by simp [this.1], this.2⟩
    · rcases List.mem_cons.1 h with rfl | h
      · exact ⟨by simp, by simp only; omega⟩
      · have := tell_mem v r (v p) j h; exact ⟨by simp [this.1], this.2⟩
theorem tell_canon (v : Int → Int) : ∀ (ps : List Int) (was : Int), ps.Pairwise (· < ·) → Canon (tell v ps was)
  | [], _, _ => Canon.nil
  | p :: r, was, h => by
    have ih := tell_canon v r (v p) (List.pairwise_cons.1 h).2
    rw [tell]
    split
    · exact ih
    · refine ⟨List.pairwise_cons.2 ⟨fun a ha => (List.pairwise_cons.1 h).1 _ (tell_mem v r _ a ha).1, ih.1⟩, fun k hk => ?_⟩
      rcases List.mem_cons.1 hk with rfl | hk
      · simp only; omega
      · exact ih.2 k hk
theorem tell_val (v : Int → Int) (F : Int) : ∀ (ps : List Int) (was lo : Int), ps.Pairwise (· < ·) → (∀ p ∈ ps, lo ≤ p ∧ p < F) →
    (∀ s t, lo ≤ s → s ≤ t → t < F → (∀ p ∈ ps, p ≤ s ∨ t < p) → v s = v t) → (∀ t, lo ≤ t → t < F → (∀ p ∈ ps, t < p) → v t = was) → ∀ t, lo ≤ t → t < F → jv (tell v ps was) t = v t - was
  | [], was, lo, _, _, _, hl, t, h1, h2 => by rw [tell, jv, hl t h1 h2 (by simp)]; omega
  | p :: r, was, lo, ha, hlo, hs, hl, t, h1, h2 => by
    have hp := (List.pairwise_cons.1 ha).1
    have hpl := hlo p (by simp)
    by_cases htp : t < p
    · have e := hl t h1 h2 (by intro q hq; rcases List.mem_cons.1 hq with rfl | hq; exact htp; exact Int.lt_trans htp (hp q hq))
      rw [jv_low, e]; omega
      intro j hj
      have := (tell_mem v _ _ j hj).1
      rcases List.mem_cons.1 this with h | h
      · omega
      · have := hp _ h; omega
    · have ih := tell_val v F r (v p) p (List.pairwise_cons.1 ha).2 (fun q hq => ⟨Int.le_of_lt (hp q hq), (hlo q (by simp [hq])).2⟩)
        (fun s t' k1 k2 k3 k4 => hs s t' (by omega) k2 k3 (by intro q hq; rcases List.mem_cons.1 hq with rfl | hq; exact .inl k1; exact k4 q hq))
        (fun t' k1 k2 k3 => (hs p t' hpl.1 k1 k2 (by intro q hq; rcases List.mem_cons.1 hq with rfl | hq; exact .inl (Int.le_refl _); exact .inr (k3 q hq))).symm) t (by omega) h2
      rw [tell]
      split
      · rename_i h; rw [ih, h]
      · rw [jv, if_pos (by simp only; omega), ih]; omega
/-- As tell_val, from nowhere on. -/
theorem tell_all (v : Int → Int) (F : Int) (ps : List Int) (h : ps.Pairwise (· < ·)) (hF : ∀ p ∈ ps, p < F) (hs : ∀ s t, s ≤ t → t < F → (∀ p ∈ ps, p ≤ s ∨ t < p) → v s = v t) (hl : ∀ t, t < F → (∀ p ∈ ps, t < p) → v t = 0) (t : Int) (ht : t < F) : jv (tell v ps 0) t = v t := by
  obtain ⟨lo, h1, h2⟩ : ∃ lo, lo ≤ t ∧ ∀ p ∈ ps, lo ≤ p := by
    rcases ps with _ | ⟨p, r⟩
    · exact ⟨t, Int.le_refl _, by simp⟩
    · refine ⟨min t p, by omega, fun q hq => ?_⟩
      rcases List.mem_cons.1 hq with rfl | hq
      · omega
      · have := (List.pairwise_cons.1 h).1 q hq; omega
  have := tell_val v F ps 0 lo h (fun p hp => ⟨h2 p hp, hF p hp⟩) (fun s t _ k2 k3 k4 => hs s t k2 k3 k4) (fun t _ k2 k3 => hl t k2 k3) t h1 ht
  omega
/-- A place more, where it belongs. -/
def ins (l : List Int) (t : Int) : List Int := if t ∈ l then l else l.filter (fun x => decide (x < t)) ++ t :: l.filter (fun x => decide (t < x))
theorem ins_mem (l : List Int) (t x : Int) : x ∈ ins l t ↔ x = t ∨ x ∈ l := by
  unfold ins
  split
  · rename_i h
    constructor
    · exact .inr
    · rintro (rfl | h')
      · exact h
      · exact h'
  · simp only [List.mem_append, List.mem_cons, List.mem_filter, decide_eq_true_eq]
    constructor
    · rintro (⟨h1, _⟩ | rfl | ⟨h1, _⟩)
      · exact .inr h1
      · exact .inl rfl
      · exact .inr h1
    · rintro (rfl | h1)
      · exact .inr (.inl rfl)
      · rcases Int.lt_trichotomy x t with h | h | h
        · exact .inl ⟨h1, h⟩
        · exact .inr (.inl h)
        · exact .inr (.inr ⟨h1, h⟩)
theorem ins_asc {l : List Int} (t : Int) (h : l.Pairwise (· < ·)) : (ins l t).Pairwise (· < ·) := by
  unfold ins
  split
  · exact h
  · refine List.pairwise_append.2 ⟨h.sublist List.filter_sublist, List.pairwise_cons.2 ⟨fun a ha => ?_, h.sublist List.filter_sublist⟩, fun a ha b hb => ?_⟩
    · simp only [List.mem_filter, decide_eq_true_eq] at ha; exact ha.2
    · simp only [List.mem_filter, decide_eq_true_eq, List.mem_cons] at ha hb
      rcases hb with rfl | hb
      · exact ha.2
      · omega
theorem ins_length (l : List Int) (t : Int) (h : l.Pairwise (· < ·)) : (ins l t).length ≤ l.length + 1 := by
  unfold ins
  split
  · omega
  · rw [List.length_append, List.length_cons]
    have : ∀ m : List Int, (m.filter (fun x => decide (x < t))).length + (m.filter (fun x => decide (t < x))).length ≤ m.length := by
      intro m
      induction m with
      | nil => simp
      | cons a r ih =>
        simp only [List.filter_cons]
        split <;> split <;> simp only [List.length_cons, decide_eq_true_eq] at * <;> omega
    have := this l
    omega
/-- The places of jumps, rising, beside those that are there. -/
def plc (a : List Int) (f : List Jp) : List Int := f.foldl (fun a j => ins a j.1) a
theorem plc_snoc (a : List Int) (f : List Jp) (j : Jp) : plc a (f ++ [j]) = ins (plc a f) j.1 := by simp [plc]
theorem plc_mem (f : List Jp) : ∀ (a : List Int) (x : Int), x ∈ plc a f ↔ x ∈ a ∨ ∃ j ∈ f, j.1 = x := by
  induction f with
  | nil => intro a x; simp [plc]
  | cons k r ih =>
    intro a x
    rw [show plc a (k :: r) = plc (ins a k.1) r from rfl, ih, ins_mem]
    simp only [List.mem_cons, exists_eq_or_imp]
    constructor
    · rintro ((h | h) | h)
      · exact .inr (.inl h.symm)
      · exact .inl h
      · exact .inr (.inr h)
    · rintro (h | h | h)
      · exact .inl (.inr h)
      · exact .inl (.inl h.symm)
      · exact .inr h
theorem plc_asc (f : List Jp) : ∀ a : List Int, a.Pairwise (· < ·) → (plc a f).Pairwise (· < ·) := by
  induction f with
  | nil => intro a h; exact h
  | cons k r ih => intro a h; exact ih _ (ins_asc _ h)
theorem plc_length (f : List Jp) : ∀ a : List Int, a.Pairwise (· < ·) → (plc a f).length ≤ a.length + f.length := by
  induction f with
  | nil => intro a h; simp [plc]
  | cons k r ih =>
    intro a h
    have h1 := ih _ (ins_asc k.1 h)
    have h2 := ins_length a k.1 h
    rw [show plc a (k :: r) = plc (ins a k.1) r from rfl, List.length_cons]
    omega
theorem jv_between {f : List Jp} {s t : Int} (hst : s ≤ t) (h : ∀ j ∈ f, j.1 ≤ s ∨ t < j.1) : jv f s = jv f t := by
  induction f with
  | nil => rfl
  | cons a r ih =>
    rw [jv, jv, ih (fun j hj => h j (by simp [hj]))]
    rcases h a (by simp) with h1 | h1
    · rw [if_pos h1, if_pos (by omega)]
    · rw [if_neg (by omega), if_neg (by omega)]
/-- Is it a jump of a function? -/
def okJ (j : Jp) : Bool := decide (-1 ≤ j.1 ∧ j.1 < 1125899906842624 ∧ j.2 ≠ 0 ∧ j.2 ≤ 1048576 ∧ -1048576 ≤ j.2)
theorem okJ_iff {j : Jp} : okJ j = true ↔ -1 ≤ j.1 ∧ j.1 < 1125899906842624 ∧ j.2 ≠ 0 ∧ j.2 ≤ 1048576 ∧ -1048576 ≤ j.2 := by unfold okJ; rw [decide_eq_true_iff]
/-- Is it a function? -/
def mayJ (f : List Jp) : Bool := decide (f.length ≤ 1024) && (f.all okJ && decide (Asc f))
theorem mayJ_iff {f : List Jp} : mayJ f = true ↔ f.length ≤ 1024 ∧ (∀ j ∈ f, okJ j = true) ∧ Asc f := by
  unfold mayJ; rw [Bool.and_eq_true, Bool.and_eq_true, decide_eq_true_iff, decide_eq_true_iff, List.all_eq_true]
theorem mayJ_net {f : List Jp} (h : mayJ f = true) : ∀ j ∈ f, -1048576 ≤ j.2 ∧ j.2 ≤ 1048576 := fun j hj => by
  have := okJ_iff.1 ((mayJ_iff.1 h).2.1 j hj); omega
theorem mayJ_len {f : List Jp} (h : mayJ f = true) : f.length ≤ 1024 := (mayJ_iff.1 h).1
theorem mayJ_nil : mayJ [] = true := by decide
/-- What is told by values at places, if there is room. -/
def full (f : List Jp) : Int := if mayJ f then 0 else 7
def kept (f : List Jp) : List Jp := if mayJ f then f else []
/-- Two that are in form, of the same values ahead of the end, are one. -/
theorem one_form {f g : List Jp} (hf : Canon f) (hg : Canon g) (h1 : ∀ j ∈ f, j.1 < 1125899906842624) (h2 : ∀ j ∈ g, j.1 < 1125899906842624) (h : ∀ t, t < 1125899906842624 → jv f t = jv g t) : f = g :=
  canon_eq 1125899906842624 f g hf hg h1 h2 h
end Go.Proofs.YtiknkcadbaeknaaGreat
