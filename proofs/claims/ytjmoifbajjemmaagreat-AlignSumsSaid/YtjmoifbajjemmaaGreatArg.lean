/-
  A helper of ours: no claim of its own. What comes in, as lists: slices of bytes, of pairs of numbers.
-/
import Derived.Test.YtjmoifbajjemmaaGreatStepT
import Derived.Test.YtjmoifbajjemmaaGreatMem
import Derived.ChangeSlices
import Derived.Deep.SlicePairs
import Derived.Deep.Matrix
import Derived.SizedLaws
set_option linter.unusedVariables false
set_option linter.unusedSimpArgs false
namespace Go.Proofs.YtjmoifbajjemmaaGreat
open Go.RowKit
theorem full_zero {f : List Jp} : full f = 0 ↔ mayJ f = true := by
  unfold full
  cases mayJ f
  · simp
  · simp
theorem twE_zero {op : Int → Int → Int} {f g : List Jp} : twE op f g = 0 ↔ mayJ f = true ∧ mayJ g = true ∧ mayJ (opd op f g) = true := by
  unfold twE
  cases mayJ f <;> cases mayJ g <;> simp [full_zero]
theorem twR_ok {op : Int → Int → Int} {f g : List Jp} (h : twE op f g = 0) : twR op f g = opd op f g := by unfold twR; rw [if_pos h]
theorem opd_eq {op : Int → Int → Int} (h0 : op 0 0 = 0) {f g k : List Jp} (hf : mayJ f = true) (hg : mayJ g = true) (hk : Canon k) (hF : ∀ j ∈ k, j.1 < 1125899906842624) (h : ∀ t, jv k t = op (jv f t) (jv g t)) : k = opd op f g :=
  one_form hk (opd_canon op f g) hF (opd_lt hf hg) fun t ht => by rw [opd_val h0 hf hg t ht, h]
theorem tw_comm {op : Int → Int → Int} (h0 : op 0 0 = 0) (hc : ∀ x y, op x y = op y x) (f g : List Jp) : twE op f g = twE op g f ∧ twR op f g = twR op g f := by
  have e : mayJ f = true → mayJ g = true → opd op f g = opd op g f := fun hf hg =>
    opd_eq h0 hg hf (opd_canon op f g) (opd_lt hf hg) fun t => by rw [opd_all h0 hf hg, hc]
  have e1 : twE op f g = twE op g f := by
    unfold twE
    rw [Bool.and_comm]
    cases hf : mayJ f
    · simp
    · cases hg : mayJ g
      · simp
      · simp [e hf hg]
  refine ⟨e1, ?_⟩
  unfold twR
  rw [← e1]
  split
  · rename_i h
    obtain ⟨hf, hg, _⟩ := twE_zero.1 h
    exact e hf hg
  · rfl
theorem tw_of_eq {op op' : Int → Int → Int} {f g f' g' : List Jp} (hf : mayJ f = true) (hg : mayJ g = true) (hf' : mayJ f' = true) (hg' : mayJ g' = true) (h : opd op f g = opd op' f' g') : twE op f g = twE op' f' g' ∧ twR op f g = twR op' f' g' := by
  have e : twE op f g = twE op' f' g' := by unfold twE; rw [hf, hg, hf', hg', h]
  exact ⟨e, by unfold twR; rw [← e, h]⟩
theorem tw_assoc {f g h : List Jp} (h1 : twE (· + ·) f g = 0) (h2 : twE (· + ·) g h = 0) : twE (· + ·) (twR (· + ·) f g) h = twE (· + ·) f (twR (· + ·) g h) ∧ twR (· + ·) (twR (· + ·) f g) h = twR (· + ·) f (twR (· + ·) g h) := by
  rw [twR_ok h1, twR_ok h2]
  obtain ⟨hf, hg, hfg⟩ := twE_zero.1 h1
  obtain ⟨_, hh, hgh⟩ := twE_zero.1 h2
  refine tw_of_eq hfg hh hf hgh ?_
  refine opd_eq rfl hf hgh (opd_canon _ _ _) (opd_lt hfg hh) fun t => ?_
  rw [opd_all rfl hfg hh, opd_all rfl hf hg, opd_all rfl hg hh]
  exact Int.add_assoc _ _ _
theorem tw_dist {f g h : List Jp} (h1 : twE (· * ·) f g = 0) (h2 : twE (· + ·) g h = 0) (h3 : twE (· * ·) f h = 0) : twE (· * ·) f (twR (· + ·) g h) = twE (· + ·) (twR (· * ·) f g) (twR (· * ·) f h) ∧ twR (· * ·) f (twR (· + ·) g h) = twR (· + ·) (twR (· * ·) f g) (twR (· * ·) f h) := by
  rw [twR_ok h1, twR_ok h2, twR_ok h3]
  obtain ⟨hf, hg, hfg⟩ := twE_zero.1 h1
  obtain ⟨_, hh, hgh⟩ := twE_zero.1 h2
  obtain ⟨_, _, hfh⟩ := twE_zero.1 h3
  refine tw_of_eq hf hgh hfg hfh ?_
  refine opd_eq rfl hfg hfh (opd_canon _ _ _) (opd_lt hf hgh) fun t => ?_
  rw [opd_all rfl hf hgh, opd_all rfl hg hh, opd_all rfl hf hg, opd_all rfl hf hh]
  exact Int.mul_add _ _ _
theorem tw_point {op : Int → Int → Int} (h0 : op 0 0 = 0) {f g : List Jp} (h : twE op f g = 0) (t : Int) : atV (twR op f g) t = op (atV f t) (atV g t) := by
  rw [twR_ok h]
  obtain ⟨hf, hg, hfg⟩ := twE_zero.1 h
  unfold atV
  rw [hf, hg, hfg]
  exact opd_all h0 hf hg t
theorem jv_end {k : List Jp} (hk : ∀ j ∈ k, j.1 < 1125899906842624) {t : Int} (ht : 1125899906842624 ≤ t) : jv k t = jv k 1125899906842623 := by
  rw [jv_high (fun j hj => by have := hk j hj; omega), jv_high (fun j hj => by have := hk j hj; omega)]
theorem ahE_zero {f : List Jp} {t : Int} : ahE f t = 0 ↔ mayJ f = true ∧ mayJ (ahL f t) = true := by
  unfold ahE; cases mayJ f <;> simp [full_zero]
theorem reE_zero {f : List Jp} {t : Int} : reE f t = 0 ↔ mayJ f = true ∧ mayJ (reL f t) = true := by
  unfold reE; cases mayJ f <;> simp [full_zero]
theorem ah_left {f : List Jp} {t p : Int} (h : ahE f t = 0) (hp : p < t) : atV (ahR f t) p = atV f p := by
  unfold ahR; rw [if_pos h]
  obtain ⟨hf, ha⟩ := ahE_zero.1 h
  unfold atV; rw [hf, ha]
  simp only [if_true]
  by_cases hpF : p < 1125899906842624
  · rw [ahL_val hf t p hpF]; unfold ahV; rw [if_pos hp]
  · rw [jv_end (k := ahL f t) (t := p) (tell_lt _ _ _ _ (ahP_lt hf t)) (by omega), jv_end (k := f) (fun j hj => (mayJ_at hf j hj).2) (t := p) (by omega)]
    rw [ahL_val hf t _ (by omega)]; unfold ahV; rw [if_pos (by omega)]
theorem ah_right {f : List Jp} {t p : Int} (h : ahE f t = 0) (hp : t ≤ p) (ht : t < 1125899906842624) : atV (ahR f t) p = 0 := by
  unfold ahR; rw [if_pos h]
  obtain ⟨hf, ha⟩ := ahE_zero.1 h
  unfold atV; rw [ha]
  simp only [if_true]
  by_cases hpF : p < 1125899906842624
  · rw [ahL_val hf t p hpF]; unfold ahV; rw [if_neg (by omega)]
  · rw [jv_end (k := ahL f t) (t := p) (tell_lt _ _ _ _ (ahP_lt hf t)) (by omega)]
    rw [ahL_val hf t _ (by omega)]; unfold ahV; rw [if_neg (by omega)]
theorem reC_val {f : List Jp} (hf : mayJ f = true) (t u : Int) (hu : -1 ≤ u) : jv (reC f t) u = js (cutL f t) + jv (cutR f t) u := by
  unfold reC; split
  · rw [jv, if_pos (by simp only; omega)]
  · rename_i h0; simp only [ne_eq, Decidable.not_not] at h0; rw [h0]; omega
theorem re_right {f : List Jp} {t p : Int} (h : reE f t = 0) (hp : t ≤ p) (h0 : 0 ≤ t) (ht : t < 1125899906842624) : atV (reR f t) p = atV f p := by
  unfold reR; rw [if_pos h]
  obtain ⟨hf, ha⟩ := reE_zero.1 h
  unfold atV; rw [hf, ha]
  simp only [if_true]
  rw [← rest_code hf t ht, reC_val hf t p (by omega)]
  have e := jv_append (cutL f t) (cutR f t) p
  rw [cut_eq, jv_high (f := cutL f t) (fun j hj => by have := cutL_lt f t j hj; omega)] at e
  exact e.symm
theorem re_left {f : List Jp} {t p : Int} (h : reE f t = 0) (hp : p < t) (hp1 : -1 ≤ p) (ht : t < 1125899906842624) : atV (reR f t) p = atV f (t - 1) := by
  unfold reR; rw [if_pos h]
  obtain ⟨hf, ha⟩ := reE_zero.1 h
  unfold atV; rw [hf, ha]
  simp only [if_true]
  have hc := (mayJ_canon hf).1
  rw [← rest_code hf t ht, reC_val hf t p (by omega), jv_low (f := cutR f t) (fun j hj => by have := cutR_ge hc t j hj; omega), cutL_js hc]; omega
end Go.Proofs.YtjmoifbajjemmaaGreat
set_option linter.unusedVariables false
set_option linter.unusedSimpArgs false
namespace Go.Proofs.YtjmoifbajjemmaaGreat
open Go.RowKit Go.Deep Go.ChangeShapes

section
variable {H : Type} {enc : TypeId × Value → H} {P : Program} {w : World} {base fuel : Nat} {held : Bool}
theorem addr_plain {a : Addr} {i : Nat} {v : Value} (h : w.cell? (a.add i) = some v) (h0 : i = 0) : ∃ b o, a = ⟨b, o, none⟩ := by
  subst h0
  have := World.cell?_spot h
  obtain ⟨b, o, s⟩ := a
  simp [Addr.add] at this
  subst this
  exact ⟨b, o, rfl⟩
theorem wf_u8 {z : Int} (h : (Lit.int .u8 z).wf = true) : 0 ≤ z ∧ z ≤ 255 := by simpa [Lit.wf, IntKind.min, IntKind.max, IntKind.bits, IntKind.signed] using h
theorem wf_i64 {z : Int} (h : (Lit.int .i64 z).wf = true) : -9223372036854775808 ≤ z ∧ z ≤ 9223372036854775807 := by simpa [Lit.wf, IntKind.min, IntKind.max, IntKind.bits, IntKind.signed] using h

/-- How many elements a reading of a slice has, and no spare beyond. -/
def sliceLen : DataW H → Nat
  | .slice elems spare => elems.length
  | _ => 0

theorem bytes_of_ints {a : Addr} {len cap : Nat} {zs : List Int} (hl : len ≤ cap) (hm : cap ≤ maxLen) (hz : len ≤ zs.length) (hc : ∀ i, i < zs.length → w.cell? (a.add i) = some (.int .u8 (zs.getD i 0))) (hw : ∀ n ∈ zs, (Lit.int .u8 n).wf = true) :
    ∃ l : List UInt8, l.length = len ∧ By w [] (.slice (some a) len cap) l := by
  refine ⟨(zs.take len).map fun z => UInt8.ofNat z.toNat, by simp; omega, ?_⟩
  have hlen : ((zs.take len).map fun z => UInt8.ofNat z.toNat).length = len := by simp; omega
  unfold By
  refine ⟨some a, cap, by rw [hlen], by rw [hlen]; exact hl, hm, by rw [bs_length, Nat.mul_one], ?_⟩
  by_cases h0 : len = 0
  · left; subst h0; simp [bs]
  right
  obtain ⟨b, o, rfl⟩ := addr_plain (hc 0 (by omega)) rfl
  refine ⟨b, o, rfl, by simp, fun j u hu => ?_⟩
  have hj : j < len := by
    rcases Nat.lt_or_ge j len with h | h
    · exact h
    · rw [List.getElem?_eq_none (by rw [bs_length, hlen]; exact h)] at hu; cases hu
  have h1 := hc j (by omega)
  rw [add_plain] at h1
  rw [h1, ← hu]
  have hjz : j < zs.length := by omega
  have hwf := wf_u8 (hw zs[j] (List.getElem_mem hjz))
  have e1 : zs.getD j 0 = zs[j] := by rw [List.getD_eq_getElem?_getD, List.getElem?_eq_getElem hjz]; rfl
  rw [e1]
  simp only [bs, List.map_map, List.getElem?_map, List.getElem?_take, if_pos hj, List.getElem?_eq_getElem hjz, Option.map_some, Function.comp]
  congr 2
  rw [show ((UInt8.ofNat zs[j].toNat).toNat : Int) = zs[j].toNat by simp; omega]
  omega

theorem open_bytes {t e : TypeId} {v : Value} {x : DataW H × List MemPlace} (ht : P.underlying t = some (.slice e)) (he : P.underlying e = some (.int .u8)) (hc : P.cellsOf e = 1)
    (h : DataW.trod enc P w base (fun _ => true) held fuel t [v] = some x) : ∃ l : List UInt8, l.length = sliceLen x.1 ∧ By w [] v l := by
  rcases open_ints ht he hc h with ⟨h1, rfl⟩ | ⟨a, len, cap, zs, h1, _, hl, hm, hz, rfl, hcell, hwf⟩
  · obtain rfl : v = .slice none 0 0 := by simpa using h1
    exact ⟨[], rfl, Sl.nil _ _ _⟩
  · obtain rfl : v = .slice (some a) len cap := by simpa using h1
    simp at hz
    obtain ⟨l, h2, h3⟩ := bytes_of_ints hl hm (by omega) hcell hwf
    refine ⟨l, ?_, h3⟩
    simp only [sliceLen, lits, List.length_map, List.length_take]
    omega

/-- Pairs of numbers as cells. -/
def ps (l : List (Int × Int)) : List Value := l.flatMap fun p => [.int .i64 p.1, .int .i64 p.2]
theorem ps_length (l : List (Int × Int)) : (ps l).length = l.length * 2 := by
  induction l with
  | nil => rfl
  | cons p r ih => simp only [ps, List.flatMap_cons, List.length_append, List.length_cons, List.length_nil] at ih ⊢; omega
theorem ps_get : ∀ (l : List (Int × Int)) (i : Nat) (p : Int × Int), l[i]? = some p → (ps l)[i * 2]? = some (.int .i64 p.1) ∧ (ps l)[i * 2 + 1]? = some (.int .i64 p.2)
  | q :: r, 0, p, h => by simp at h; subst h; exact ⟨rfl, rfl⟩
  | q :: r, i + 1, p, h => by
    have := ps_get r i p (by simpa using h)
    rw [show (i + 1) * 2 = i * 2 + 1 + 1 by omega]
    simpa [ps] using this
theorem ps_at (l : List (Int × Int)) (j : Nat) (u : Value) (h : (ps l)[j]? = some u) : ∃ i p, l[i]? = some p ∧ ((j = i * 2 ∧ u = .int .i64 p.1) ∨ (j = i * 2 + 1 ∧ u = .int .i64 p.2)) := by
  have hj : j < l.length * 2 := by
    rcases Nat.lt_or_ge j (l.length * 2) with h1 | h1
    · exact h1
    · rw [List.getElem?_eq_none (by rw [ps_length]; exact h1)] at h; cases h
  have hi : j / 2 < l.length := by omega
  refine ⟨j / 2, l[j / 2], List.getElem?_eq_getElem hi, ?_⟩
  obtain ⟨h0, h1⟩ := ps_get l (j / 2) _ (List.getElem?_eq_getElem hi)
  rcases (by omega : j = j / 2 * 2 ∨ j = j / 2 * 2 + 1) with e | e
  · left; refine ⟨e, ?_⟩; rw [← e] at h0; rw [h0] at h; cases h; rfl
  · right; refine ⟨e, ?_⟩; rw [← e] at h1; rw [h1] at h; cases h; rfl

theorem open_pairs {t e : TypeId} {f0 f1 : Field} {v : Value} {x : DataW H × List MemPlace} (ht : P.underlying t = some (.slice e)) (he : P.underlying e = some (.struct #[f0, f1]))
    (ce : P.cellsOf e = 2) (o0 : f0.offset = 0) (o1 : f1.offset = 1) (c0 : P.cellsOf f0.type = 1) (c1 : P.cellsOf f1.type = 1) (u0 : P.underlying f0.type = some (.int .i64)) (u1 : P.underlying f1.type = some (.int .i64))
    (h : DataW.trod enc P w base (fun _ => true) held fuel t [v] = some x) : ∃ l : List (Int × Int), l.length = sliceLen x.1 ∧ Sl w [] 2 v l.length (ps l) ∧ ∀ p ∈ l, (-9223372036854775808 ≤ p.1 ∧ p.1 ≤ 9223372036854775807) ∧ (-9223372036854775808 ≤ p.2 ∧ p.2 ≤ 9223372036854775807) := by
  rcases open_slice_pairs ht he ce o0 o1 c0 c1 h with ⟨h1, rfl⟩ | ⟨a, len, cap, m, n, V0, V1, D0, D1, P0, P1, h1, _, hl, hm, hmm, rfl, hcell⟩
  · obtain rfl : v = .slice none 0 0 := by simpa using h1
    exact ⟨[], rfl, Sl.nil _ _ _, by simp⟩
  · obtain rfl : v = .slice (some a) len cap := by simpa using h1
    simp at hmm
    have each : ∀ i, i < len → ∃ p : Int × Int, V0 i = .int .i64 p.1 ∧ V1 i = .int .i64 p.2 ∧ (-9223372036854775808 ≤ p.1 ∧ p.1 ≤ 9223372036854775807) ∧ (-9223372036854775808 ≤ p.2 ∧ p.2 ≤ 9223372036854775807) := by
      intro i hi
      obtain ⟨_, _, t0, t1⟩ := hcell i (by omega)
      obtain ⟨z0, e0, _, w0⟩ := DataW.trod_int u0 t0
      obtain ⟨z1, e1, _, w1⟩ := DataW.trod_int u1 t1
      simp at e0 e1
      exact ⟨(z0, z1), e0, e1, wf_i64 w0, wf_i64 w1⟩
    obtain ⟨p, hp⟩ := choose_lt (α := Int × Int) (p := fun i p => V0 i = .int .i64 p.1 ∧ V1 i = .int .i64 p.2 ∧ (-9223372036854775808 ≤ p.1 ∧ p.1 ≤ 9223372036854775807) ∧ (-9223372036854775808 ≤ p.2 ∧ p.2 ≤ 9223372036854775807)) each
    refine ⟨(List.range len).map p, by simp [sliceLen], ?_, ?_⟩
    · refine ⟨some a, cap, by simp, by simpa using hl, hm, by rw [ps_length], ?_⟩
      by_cases h0 : len = 0
      · left; subst h0; rfl
      right
      obtain ⟨b, o, rfl⟩ := addr_plain (hcell 0 (by omega)).1 (by omega)
      refine ⟨b, o, rfl, by simp, fun j u hu => ?_⟩
      obtain ⟨i, q, hq, hj⟩ := ps_at _ j u hu
      have hi : i < len := by
        rcases Nat.lt_or_ge i len with h | h
        · exact h
        · rw [List.getElem?_eq_none (by simpa using h)] at hq; cases hq
      have hq' : q = p i := by simpa [hi] using hq.symm
      obtain ⟨g0, g1, _, _⟩ := hcell i (by omega)
      rw [add_plain] at g0 g1
      obtain ⟨e0, e1, _, _⟩ := hp i hi
      rcases hj with ⟨rfl, rfl⟩ | ⟨rfl, rfl⟩
      · rw [g0, e0, hq']
      · rw [g1, e1, hq']
    · intro q hq
      simp only [List.mem_map, List.mem_range] at hq
      obtain ⟨i, hi, rfl⟩ := hq
      exact (hp i hi).2.2

theorem sized_len {ts : List TypeId} {ds : List (DataW H)} (h : (DataW.weightsEach P ts ds).all (· ≤ reachBytes) = true) {j : Nat} {t e : TypeId} {d : DataW H} (ht : ts[j]? = some t) (hd : ds[j]? = some d) (hu : P.underlying t = some (.slice e)) (hb : 1 ≤ P.bytesOf e) :
    sliceLen d ≤ 140737488351232 := by
  cases d with
  | slice elems spare =>
    have h1 := sized_slice h ht hd hu
    have h2 := Nat.mul_le_mul_left (elems.length + spare.length) hb
    simp only [sliceLen, reachBytes] at *
    omega
  | _ => simp [sliceLen]
theorem sized_text {ts : List TypeId} {ds : List (DataW H)} (h : (DataW.weightsEach P ts ds).all (· ≤ reachBytes) = true) {j : Nat} {t : TypeId} {s : ByteArray} (ht : ts[j]? = some t) (hd : ds[j]? = some (.lit (.string s.data.toList))) : s.size ≤ 140737488351232 := by
  have h1 := sized_string h ht hd
  have : s.data.toList.length = s.size := by rw [Array.length_toList]; rfl
  rw [this] at h1
  exact h1
end
end Go.Proofs.YtjmoifbajjemmaaGreat
