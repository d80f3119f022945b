/-
  A helper of ours: no claim of its own. What comes in, as lists: slices of bytes, of pairs of numbers.
-/
import Derived.Test.YtkfdkjjocdbolaaMem
import Derived.ChangeSlices
import Derived.Deep.SlicePairs
import Derived.Deep.Matrix
import Derived.SizedLaws
set_option linter.unusedVariables false
set_option linter.unusedSimpArgs false
namespace Go.Proofs.Ytkfdkjjocdbolaa
open Go.RowKit Go.Deep Go.ChangeShapes

section
variable {H : Type} {enc : TypeId × Value → H} {P : Program} {w : World} {base fuel : Nat} {held : Bool}
theorem addr_plain {a : Addr} {i : Nat} {v : Value} (h : w.cell? (a.add i) = some v) (h0 : i = 0) : ∃ b o, a = ⟨b, o, none⟩ := by
  subst h0
  have := World.cell?_spot h
  obtain ⟨b, o, s⟩ := a
  simp [Addr.add] at this
  subst this
  exact ⟨b, o, rfl⟩
theorem wf_u8 {z : Int} (h : (Lit.int .u8 z).wf = true) : 0 ≤ z ∧ z ≤ 255 := by simpa [Lit.wf, IntKind.min, IntKind.max, IntKind.bits, IntKind.signed] using h
theorem wf_i64 {z : Int} (h : (Lit.int .i64 z).wf = true) : -9223372036854775808 ≤ z ∧ z ≤ 9223372036854775807 := by simpa [Lit.wf, IntKind.min, IntKind.max, IntKind.bits, IntKind.signed] using h

/-- How many elements a reading of a slice has, and no spare beyond. -/
def sliceLen : DataW H → Nat
  | .slice elems spare => elems.length
  | _ => 0

theorem bytes_of_ints {a : Addr} {len cap : Nat} {zs : List Int} (hl : len ≤ cap) (hm : cap ≤ maxLen) (hz : len ≤ zs.length) (hc : ∀ i, i < zs.length → w.cell? (a.add i) = some (.int .u8 (zs.getD i 0))) (hw : ∀ n ∈ zs, (Lit.int .u8 n).wf = true) :
    ∃ l : List UInt8, l.length = len ∧ By w [] (.slice (some a) len cap) l := by
  refine ⟨(zs.take len).map fun z => UInt8.ofNat z.toNat, by simp; omega, ?_⟩
  have hlen : ((zs.take len).map fun z => UInt8.ofNat z.toNat).length = len := by simp; omega
  unfold By
  refine ⟨some a, cap, by rw [hlen], by rw [hlen]; exact hl, hm, by rw [bs_length, Nat.mul_one], ?_⟩
  by_cases h0 : len = 0
  · left; subst h0; simp [bs]
  right
  obtain ⟨b, o, rfl⟩ := addr_plain (hc 0 (by omega)) rfl
  refine ⟨b, o, rfl, by simp, fun j u hu => ?_⟩
  have hj : j < len := by
    rcases Nat.lt_or_ge j len with h | h
    · exact h
    · rw [List.getElem?_eq_none (by rw [bs_length, hlen]; exact h)] at hu; cases hu
  have h1 := hc j (by omega)
  rw [add_plain] at h1
  rw [h1, ← hu]
  have hjz : j < zs.length := by omega
  have hwf := wf_u8 (hw zs[j] (List.getElem_mem hjz))
  have e1 : zs.getD j 0 = zs[j] := by rw [List.getD_eq_getElem?_getD, List.getElem?_eq_getElem hjz]; rfl
  rw [e1]
  simp only [bs, List.map_map, List.getElem?_map, List.getElem?_take, if_pos hj, List.getElem?_eq_getElem hjz, Option.map_some, Function.comp]
  congr 2
  rw [show ((UInt8.ofNat zs[j].toNat).toNat : Int) = zs[j].toNat by simp; omega]
  omega

theorem open_bytes {t e : TypeId} {v : Value} {x : DataW H × List MemPlace} (ht : P.underlying t = some (.slice e)) (he : P.underlying e = some (.int .u8)) (hc : P.cellsOf e = 1)
    (h : DataW.trod enc P w base (fun _ => true) held fuel t [v] = some x) : ∃ l : List UInt8, l.length = sliceLen x.1 ∧ By w [] v l := by
  rcases open_ints ht he hc h with ⟨h1, rfl⟩ | ⟨a, len, cap, zs, h1, _, hl, hm, hz, rfl, hcell, hwf⟩
  · obtain rfl : v = .slice none 0 0 := by simpa using h1
    exact ⟨[], rfl, Sl.nil _ _ _⟩
  · obtain rfl : v = .slice (some a) len cap := by simpa using h1
    simp at hz
    obtain ⟨l, h2, h3⟩ := bytes_of_ints hl hm (by omega) hcell hwf
    refine ⟨l, ?_, h3⟩
    simp only [sliceLen, lits, List.length_map, List.length_take]
    omega

/-- Pairs of numbers as cells. -/
def ps (l : List (Int × Int)) : List Value := l.flatMap fun p => [.int .i64 p.1, .int .i64 p.2]
theorem ps_length (l : List (Int × Int)) : (ps l).length = l.length * 2 := by
  induction l with
  | nil => rfl
  | cons p r ih => simp only [ps, List.flatMap_cons, List.length_append, List.length_cons, List.length_nil] at ih ⊢; omega
theorem ps_get : ∀ (l : List (Int × Int)) (i : Nat) (p : Int × Int), l[i]? = some p → (ps l)[i * 2]? = some (.int .i64 p.1) ∧ (ps l)[i * 2 + 1]? = some (.int .i64 p.2)
  | q :: r, 0, p, h => by simp at h; subst h; exact ⟨rfl, rfl⟩
  | q :: r, i + 1, p, h => by
    have := ps_get r i p (by simpa using h)
    rw [show (i + 1) * 2 = i * 2 + 1 + 1 by omega]
    simpa [ps] using this
theorem ps_at (l : List (Int × Int)) (j : Nat) (u : Value) (h : (ps l)[j]? = some u) : ∃ i p, l[i]? = some p ∧ ((j = i * 2 ∧ u = .int .i64 p.1) ∨ (j = i * 2 + 1 ∧ u = .int .i64 p.2)) := by
  have hj : j < l.length * 2 := by
    rcases Nat.lt_or_ge j (l.length * 2) with h1 | h1
    · exact h1
    · rw [List.getElem?_eq_none (by rw [ps_length]; exact h1)] at h; cases h
  have hi : j / 2 < l.length := by omega
  refine ⟨j / 2, l[j / 2], List.getElem?_eq_getElem hi, ?_⟩
  obtain ⟨h0, h1⟩ := ps_get l (j / 2) _ (List.getElem?_eq_getElem hi)
  rcases (by omega : j = j / 2 * 2 ∨ j = j / 2 * 2 + 1) with e | e
  · left; refine ⟨e, ?_⟩; rw [← e] at h0; rw [h0] at h; cases h; rfl
  · right; refine ⟨e, ?_⟩; rw [← e] at h1; rw [h1] at h; cases h; rfl

theorem open_pairs {t e : TypeId} {f0 f1 : Field} {v : Value} {x : DataW H × List MemPlace} (ht : P.underlying t = some (.slice e)) (he : P.underlying e = some (.struct #[f0, f1]))
    (ce : P.cellsOf e = 2) (o0 : f0.offset = 0) (o1 : f1.offset = 1) (c0 : P.cellsOf f0.type = 1) (c1 : P.cellsOf f1.type = 1) (u0 : P.underlying f0.type = some (.int .i64)) (u1 : P.underlying f1.type = some (.int .i64))
    (h : DataW.trod enc P w base (fun _ => true) held fuel t [v] = some x) : ∃ l : List (Int × Int), l.length = sliceLen x.1 ∧ Sl w [] 2 v l.length (ps l) ∧ ∀ p ∈ l, (-9223372036854775808 ≤ p.1 ∧ p.1 ≤ 9223372036854775807) ∧ (-9223372036854775808 ≤ p.2 ∧ p.2 ≤ 9223372036854775807) := by
  rcases open_slice_pairs ht he ce o0 o1 c0 c1 h with ⟨h1, rfl⟩ | ⟨a, len, cap, m, n, V0, V1, D0, D1, P0, P1, h1, _, hl, hm, hmm, rfl, hcell⟩
  · obtain rfl : v = .slice none 0 0 := by simpa using h1
    exact ⟨[], rfl, Sl.nil _ _ _, by simp⟩
  · obtain rfl : v = .slice (some a) len cap := by simpa using h1
    simp at hmm
    have each : ∀ i, i < len → ∃ p : Int × Int, V0 i = .int .i64 p.1 ∧ V1 i = .int .i64 p.2 ∧ (-9223372036854775808 ≤ p.1 ∧ p.1 ≤ 9223372036854775807) ∧ (-9223372036854775808 ≤ p.2 ∧ p.2 ≤ 9223372036854775807) := by
      intro i hi
      obtain ⟨_, _, t0, t1⟩ := hcell i (by omega)
      obtain ⟨z0, e0, _, w0⟩ := DataW.trod_int u0 t0
      obtain ⟨z1, e1, _, w1⟩ := DataW.trod_int u1 t1
      simp at e0 e1
      exact ⟨(z0, z1), e0, e1, wf_i64 w0, wf_i64 w1⟩
    obtain ⟨p, hp⟩ := choose_lt (α := Int × Int) (p := fun i p => V0 i = .int .i64 p.1 ∧ V1 i = .int .i64 p.2 ∧ (-9223372036854775808 ≤ p.1 ∧ p.1 ≤ 9223372036854775807) ∧ (-9223372036854775808 ≤ p.2 ∧ p.2 ≤ 9223372036854775807)) each
    refine ⟨(List.range len).map p, by simp [sliceLen], ?_, ?_⟩
    · refine ⟨some a, cap, by simp, by simpa using hl, hm, by rw [ps_length], ?_⟩
      by_cases h0 : len = 0
      · left; subst h0; rfl
      right
      obtain ⟨b, o, rfl⟩ := addr_plain (hcell 0 (by omega)).1 (by omega)
      refine ⟨b, o, rfl, by simp, fun j u hu => ?_⟩
      obtain ⟨i, q, hq, hj⟩ := ps_at _ j u hu
      have hi : i < len := by
        rcases Nat.lt_or_ge i len with h | h
        · exact h
        · rw [List.getElem?_eq_none (by simpa using h)] at hq; cases hq
      have hq' : q = p i := by simpa [hi] using hq.symm
      obtain ⟨g0, g1, _, _⟩ := hcell i (by omega)
      rw [add_plain] at g0 g1
      obtain ⟨e0, e1, _, _⟩ := hp i hi
      rcases hj with ⟨rfl, rfl⟩ | ⟨rfl, rfl⟩
      · rw [g0, e0, hq']
      · rw [g1, e1, hq']
    · intro q hq
      simp only [List.mem_map, List.mem_range] at hq
      obtain ⟨i, hi, rfl⟩ := hq
      exact (hp i hi).2.2

theorem sized_len {ts : List TypeId} {ds : List (DataW H)} (h : (DataW.weightsEach P ts ds).all (· ≤ reachBytes) = true) {j : Nat} {t e : TypeId} {d : DataW H} (ht : ts[j]? = some t) (hd : ds[j]? = some d) (hu : P.underlying t = some (.slice e)) (hb : 1 ≤ P.bytesOf e) :
    sliceLen d ≤ 140737488351232 := by
  cases d with
  | slice elems spare =>
    have h1 := sized_slice h ht hd hu
    have h2 := Nat.mul_le_mul_left (elems.length + spare.length) hb
    simp only [sliceLen, reachBytes] at *
    omega
  | _ => simp [sliceLen]
theorem sized_text {ts : List TypeId} {ds : List (DataW H)} (h : (DataW.weightsEach P ts ds).all (· ≤ reachBytes) = true) {j : Nat} {t : TypeId} {s : ByteArray} (ht : ts[j]? = some t) (hd : ds[j]? = some (.lit (.string s.data.toList))) : s.size ≤ 140737488351232 := by
  have h1 := sized_string h ht hd
  have : s.data.toList.length = s.size := by rw [Array.length_toList]; rfl
  rw [this] at h1
  exact h1
end
end Go.Proofs.Ytkfdkjjocdbolaa
