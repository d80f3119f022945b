/-
  A helper of ours: no claim of its own. Layer 10 (edge): edges in memory (their rows lie elsewhere); what is asked of one edge, or of two.
-/
import Derived.Test.YtoghgjgaolinaaaMem
import Derived.ChangeSlices
import Derived.Deep.SlicePairs
import Derived.Deep.Matrix
import Derived.SizedLaws
import Derived.Test.YtoghgjgaolinaaaStepU
import Derived.Test.YtoghgjgaolinaaaRows
import Derived.Handy
import Derived.WalkSpells
import Derived.WalkSmall
import Derived.Deep.LoopGhost
import Derived.BigQuiet
import Derived.WalkLawsBesides
import Derived.Test.YtoghgjgaolinaaaEdgS
set_option linter.unusedVariables false
set_option linter.unusedSimpArgs false
namespace Go.Proofs.Ytoghgjgaolinaaa
open Go.RowKit Go.Deep Go.ChangeShapes

section
variable {H : Type} {enc : TypeId × Value → H} {P : Program} {w : World} {base fuel : Nat} {held : Bool}
theorem addr_plain {a : Addr} {i : Nat} {v : Value} (h : w.cell? (a.add i) = some v) (h0 : i = 0) : ∃ b o, a = ⟨b, o, none⟩ := by
  subst h0
  have := World.cell?_spot h
  obtain ⟨b, o, s⟩ := a
  simp [Addr.add] at this
  subst this
  exact ⟨b, o, rfl⟩
theorem wf_u8 {z : Int} (h : (Lit.int .u8 z).wf = true) : 0 ≤ z ∧ z ≤ 255 := by simpa [Lit.wf, IntKind.min, IntKind.max, IntKind.bits, IntKind.signed] using h
theorem wf_i64 {z : Int} (h : (Lit.int .i64 z).wf = true) : -9223372036854775808 ≤ z ∧ z ≤ 9223372036854775807 := by simpa [Lit.wf, IntKind.min, IntKind.max, IntKind.bits, IntKind.signed] using h

/-- How many elements a reading of a slice has, and no spare beyond. -/
def sliceLen : DataW H → Nat
  | .slice elems spare => elems.length
  | _ => 0

theorem bytes_of_ints {a : Addr} {len cap : Nat} {zs : List Int} (hl : len ≤ cap) (hm : cap ≤ maxLen) (hz : len ≤ zs.length) (hc : ∀ i, i < zs.length → w.cell? (a.add i) = some (.int .u8 (zs.getD i 0))) (hw : ∀ n ∈ zs, (Lit.int .u8 n).wf = true) :
    ∃ l : List UInt8, l.length = len ∧ By w [] (.slice (some a) len cap) l := by
  refine ⟨(zs.take len).map fun z => UInt8.ofNat z.toNat, by simp; omega, ?_⟩
  have hlen : ((zs.take len).map fun z => UInt8.ofNat z.toNat).length = len := by simp; omega
  unfold By
  refine ⟨some a, cap, by rw [hlen], by rw [hlen]; exact hl, hm, by rw [bs_length, Nat.mul_one], ?_⟩
  by_cases h0 : len = 0
  · left; subst h0; simp [bs]
  right
  obtain ⟨b, o, rfl⟩ := addr_plain (hc 0 (by omega)) rfl
  refine ⟨b, o, rfl, by simp, fun j u hu => ?_⟩
  have hj : j < len := by
    rcases Nat.lt_or_ge j len with h | h
    · exact h
    · rw [List.getElem?_eq_none (by rw [bs_length, hlen]; exact h)] at hu; cases hu
  have h1 := hc j (by omega)
  rw [add_plain] at h1
  rw [h1, ← hu]
  have hjz : j < zs.length := by omega
  have hwf := wf_u8 (hw zs[j] (List.getElem_mem hjz))
  have e1 : zs.getD j 0 = zs[j] := by rw [List.getD_eq_getElem?_getD, List.getElem?_eq_getElem hjz]; rfl
  rw [e1]
  simp only [bs, List.map_map, List.getElem?_map, List.getElem?_take, if_pos hj, List.getElem?_eq_getElem hjz, Option.map_some, Function.comp]
  congr 2
  rw [show ((UInt8.ofNat zs[j].toNat).toNat : Int) = zs[j].toNat by simp; omega]
  omega

theorem open_bytes {t e : TypeId} {v : Value} {x : DataW H × List MemPlace} (ht : P.underlying t = some (.slice e)) (he : P.underlying e = some (.int .u8)) (hc : P.cellsOf e = 1)
    (h : DataW.trod enc P w base (fun _ => true) held fuel t [v] = some x) : ∃ l : List UInt8, l.length = sliceLen x.1 ∧ By w [] v l := by
  rcases open_ints ht he hc h with ⟨h1, rfl⟩ | ⟨a, len, cap, zs, h1, _, hl, hm, hz, rfl, hcell, hwf⟩
  · obtain rfl : v = .slice none 0 0 := by simpa using h1
    exact ⟨[], rfl, Sl.nil _ _ _⟩
  · obtain rfl : v = .slice (some a) len cap := by simpa using h1
    simp at hz
    obtain ⟨l, h2, h3⟩ := bytes_of_ints hl hm (by omega) hcell hwf
    refine ⟨l, ?_, h3⟩
    simp only [sliceLen, lits, List.length_map, List.length_take]
    omega

/-- Pairs of numbers as cells. -/
def ps (l : List (Int × Int)) : List Value := l.flatMap fun p => [.int .i64 p.1, .int .i64 p.2]
theorem ps_length (l : List (Int × Int)) : (ps l).length = l.length * 2 := by
  induction l with
  | nil => rfl
  | cons p r ih => simp only [ps, List.flatMap_cons, List.length_append, List.length_cons, List.length_nil] at ih ⊢; omega
theorem ps_get : ∀ (l : List (Int × Int)) (i : Nat) (p : Int × Int), l[i]? = some p → (ps l)[i * 2]? = some (.int .i64 p.1) ∧ (ps l)[i * 2 + 1]? = some (.int .i64 p.2)
  | q :: r, 0, p, h => by simp at h; subst h; exact ⟨rfl, rfl⟩
  | q :: r, i + 1, p, h => by
    have := ps_get r i p (by simpa using h)
    rw [show (i + 1) * 2 = i * 2 + 1 + 1 by omega]
    simpa [ps] using this
theorem ps_at (l : List (Int × Int)) (j : Nat) (u : Value) (h : (ps l)[j]? = some u) : ∃ i p, l[i]? = some p ∧ ((j = i * 2 ∧ u = .int .i64 p.1) ∨ (j = i * 2 + 1 ∧ u = .int .i64 p.2)) := by
  have hj : j < l.length * 2 := by
    rcases Nat.lt_or_ge j (l.length * 2) with h1 | h1
    · exact h1
    · rw [List.getElem?_eq_none (by rw [ps_length]; exact h1)] at h; cases h
  have hi : j / 2 < l.length := by omega
  refine ⟨j / 2, l[j / 2], List.getElem?_eq_getElem hi, ?_⟩
  obtain ⟨h0, h1⟩ := ps_get l (j / 2) _ (List.getElem?_eq_getElem hi)
  rcases (by omega : j = j / 2 * 2 ∨ j = j / 2 * 2 + 1) with e | e
  · left; refine ⟨e, ?_⟩; rw [← e] at h0; rw [h0] at h; cases h; rfl
  · right; refine ⟨e, ?_⟩; rw [← e] at h1; rw [h1] at h; cases h; rfl

theorem open_pairs {t e : TypeId} {f0 f1 : Field} {v : Value} {x : DataW H × List MemPlace} (ht : P.underlying t = some (.slice e)) (he : P.underlying e = some (.struct #[f0, f1]))
    (ce : P.cellsOf e = 2) (o0 : f0.offset = 0) (o1 : f1.offset = 1) (c0 : P.cellsOf f0.type = 1) (c1 : P.cellsOf f1.type = 1) (u0 : P.underlying f0.type = some (.int .i64)) (u1 : P.underlying f1.type = some (.int .i64))
    (h : DataW.trod enc P w base (fun _ => true) held fuel t [v] = some x) : ∃ l : List (Int × Int), l.length = sliceLen x.1 ∧ Sl w [] 2 v l.length (ps l) ∧ ∀ p ∈ l, (-9223372036854775808 ≤ p.1 ∧ p.1 ≤ 9223372036854775807) ∧ (-9223372036854775808 ≤ p.2 ∧ p.2 ≤ 9223372036854775807) := by
  rcases open_slice_pairs ht he ce o0 o1 c0 c1 h with ⟨h1, rfl⟩ | ⟨a, len, cap, m, n, V0, V1, D0, D1, P0, P1, h1, _, hl, hm, hmm, rfl, hcell⟩
  · obtain rfl : v = .slice none 0 0 := by simpa using h1
    exact ⟨[], rfl, Sl.nil _ _ _, by simp⟩
  · obtain rfl : v = .slice (some a) len cap := by simpa using h1
    simp at hmm
    have each : ∀ i, i < len → ∃ p : Int × Int, V0 i = .int .i64 p.1 ∧ V1 i = .int .i64 p.2 ∧ (-9223372036854775808 ≤ p.1 ∧ p.1 ≤ 9223372036854775807) ∧ (-9223372036854775808 ≤ p.2 ∧ p.2 ≤ 9223372036854775807) := by
      intro i hi
      obtain ⟨_, _, t0, t1⟩ := hcell i (by omega)
      obtain ⟨z0, e0, _, w0⟩ := DataW.trod_int u0 t0
      obtain ⟨z1, e1, _, w1⟩ := DataW.trod_int u1 t1
      simp at e0 e1
      exact ⟨(z0, z1), e0, e1, wf_i64 w0, wf_i64 w1⟩
    obtain ⟨p, hp⟩ := choose_lt (α := Int × Int) (p := fun i p => V0 i = .int .i64 p.1 ∧ V1 i = .int .i64 p.2 ∧ (-9223372036854775808 ≤ p.1 ∧ p.1 ≤ 9223372036854775807) ∧ (-9223372036854775808 ≤ p.2 ∧ p.2 ≤ 9223372036854775807)) each
    refine ⟨(List.range len).map p, by simp [sliceLen], ?_, ?_⟩
    · refine ⟨some a, cap, by simp, by simpa using hl, hm, by rw [ps_length], ?_⟩
      by_cases h0 : len = 0
      · left; subst h0; rfl
      right
      obtain ⟨b, o, rfl⟩ := addr_plain (hcell 0 (by omega)).1 (by omega)
      refine ⟨b, o, rfl, by simp, fun j u hu => ?_⟩
      obtain ⟨i, q, hq, hj⟩ := ps_at _ j u hu
      have hi : i < len := by
        rcases Nat.lt_or_ge i len with h | h
        · exact h
        · rw [List.getElem?_eq_none (by simpa using h)] at hq; cases hq
      have hq' : q = p i := by simpa [hi] using hq.symm
      obtain ⟨g0, g1, _, _⟩ := hcell i (by omega)
      rw [add_plain] at g0 g1
      obtain ⟨e0, e1, _, _⟩ := hp i hi
      rcases hj with ⟨rfl, rfl⟩ | ⟨rfl, rfl⟩
      · rw [g0, e0, hq']
      · rw [g1, e1, hq']
    · intro q hq
      simp only [List.mem_map, List.mem_range] at hq
      obtain ⟨i, hi, rfl⟩ := hq
      exact (hp i hi).2.2

theorem sized_len {ts : List TypeId} {ds : List (DataW H)} (h : (DataW.weightsEach P ts ds).all (· ≤ reachBytes) = true) {j : Nat} {t e : TypeId} {d : DataW H} (ht : ts[j]? = some t) (hd : ds[j]? = some d) (hu : P.underlying t = some (.slice e)) (hb : 1 ≤ P.bytesOf e) :
    sliceLen d ≤ 140737488351232 := by
  cases d with
  | slice elems spare =>
    have h1 := sized_slice h ht hd hu
    have h2 := Nat.mul_le_mul_left (elems.length + spare.length) hb
    simp only [sliceLen, reachBytes] at *
    omega
  | _ => simp [sliceLen]
theorem sized_text {ts : List TypeId} {ds : List (DataW H)} (h : (DataW.weightsEach P ts ds).all (· ≤ reachBytes) = true) {j : Nat} {t : TypeId} {s : ByteArray} (ht : ts[j]? = some t) (hd : ds[j]? = some (.lit (.string s.data.toList))) : s.size ≤ 140737488351232 := by
  have h1 := sized_string h ht hd
  have : s.data.toList.length = s.size := by rw [Array.length_toList]; rfl
  rw [this] at h1
  exact h1
end
end Go.Proofs.Ytoghgjgaolinaaa
set_option linter.unusedVariables false
set_option linter.unusedSimpArgs false
namespace Go.Proofs.Ytoghgjgaolinaaa
open Go.RowKit
attribute [local go_sem] GW.cell GW.frozen In.eq_true In.le_true In.ne In.ne' In.ne_add In.ne_add' In.lt_add Upto.le_true Upto.le_add Upto.lt_add
theorem ps_append (l m : List Jp) : ps (l ++ m) = ps l ++ ps m := by simp [ps]
theorem ps_drop (l : List Jp) : ∀ n, (ps l).drop (n * 2) = ps (l.drop n) := by
  induction l with
  | nil => intro n; simp [ps]
  | cons p r ih =>
    intro n
    rcases n with _ | n
    · simp [ps]
    · rw [show (n + 1) * 2 = n * 2 + 1 + 1 by omega]
      simpa [ps] using ih n
theorem ps_one (l : List Jp) : ∀ u ∈ ps l, u.oneCell' = true := by
  intro u hu
  simp only [ps, List.mem_flatMap] at hu
  obtain ⟨a, _, hu⟩ := hu
  simp at hu
  rcases hu with rfl | rfl <;> rfl
/-- Jumps, where they lie. -/
abbrev Jw (w : World) (S : List Nat) (v : Value) (l : List Jp) : Prop := Sl w S 2 v l.length (ps l)
abbrev OwnJ (w : World) (base : Nat) (v : Value) (l : List Jp) : Prop := w.ownsRow base 115 2 v l.length (ps l)
theorem jw_form {w : World} {S : List Nat} {v : Value} {l : List Jp} (h : Jw w S v l) : ∃ A cap, v = .slice A l.length cap ∧ l.length ≤ cap ∧ cap ≤ maxLen ∧
    ∀ (i : Nat) (x : Jp), l[i]? = some x → ∃ b o, A = some ⟨b, o, none⟩ ∧ b ∉ S ∧ b < w.heap.size ∧ w.cell? ⟨b, o + i * 2, none⟩ = some (.int .i64 x.1) ∧ w.cell? ⟨b, o + i * 2 + 1, none⟩ = some (.int .i64 x.2) := by
  obtain ⟨A, cap, rfl, h1, h2, h3, h4⟩ := h
  refine ⟨A, cap, rfl, h1, h2, fun i x hx => ?_⟩
  obtain ⟨g0, g1⟩ := ps_get l i x hx
  rcases h4 with h4 | ⟨b, o, rfl, hb, hc⟩
  · rw [h4] at g0; cases g0
  · have c0 := hc _ _ g0
    have c1 := hc _ _ g1
    exact ⟨b, o, rfl, hb, block_lt_of_cell c0, c0, c1⟩
theorem jcell_later {w wr : World} (h : Ext w wr) {b o : Nat} {u : Value} (hc : w.cell? ⟨b, o, none⟩ = some u) : wr.cell? ⟨b, o, none⟩ = some u :=
  (World.cell?_of_block (a := ⟨b, o, none⟩) (h.block b (block_lt_of_cell hc))).trans hc
theorem jdrop_cons {α : Type} {l : List α} {k : Nat} {x : α} (h : l[k]? = some x) : l.drop k = x :: l.drop (k + 1) := by
  have hk := (List.getElem?_eq_some_iff.1 h).1
  rw [List.drop_eq_getElem_cons hk]
  rw [List.getElem?_eq_getElem hk] at h
  rw [Option.some.inj h]
theorem take_snoc {α : Type} {l : List α} {k : Nat} {x : α} (h : l[k]? = some x) : l.take (k + 1) = l.take k ++ [x] := by
  rw [List.take_add_one, h]; rfl
theorem tJmp : ElemT Try.prog 76 115 (.agg #[.int .i64 0, .int .i64 0]) 2 16 := ElemT.mk' Try.underlying76 (by kernel_rfl) rfl (by omega)
theorem own_appJ {w : World} {B : Nat} {v : Value} {l m : List Jp} (h : w.ownsRow B 115 2 v (l.length + m.length) (ps l ++ ps m)) : OwnJ w B v (l ++ m) := by
  unfold OwnJ; rw [List.length_append, ps_append]; exact h
theorem own_jw {w : World} {B : Nat} {S : List Nat} {v : Value} {l : List Jp} (h : OwnJ w B v l) (hs : ∀ b, b ∈ S → b < B) : Jw w S v l := Sl.own h hs
/-- A jump by value. -/
abbrev jm (x : Jp) : Value := .agg #[.int .i64 x.1, .int .i64 x.2]
theorem src_jmp {P : Program} {tx e' : TypeId} (hk : P.underlying tx = some (.slice e')) (w : World) (x : Jp) (E : TypeId) : Src P 2 tx (.slice (some ⟨w.heap.size, 0, none⟩) 1 1) 1 (ps [x]) (w.alloc (.cells #[.int .i64 x.1, .int .i64 x.2] E)) :=
  Src.ofSlice _ hk _ 1 1 (ps [x]) (by simp [ps]) (fun j u hj => by
    have hj' : j < 2 := by
      have := (List.getElem?_eq_some_iff.1 hj).1
      simpa [ps] using this
    have hh := (Ob.new w E [.int .i64 x.1, .int .i64 x.2]).cell j hj
    rw [show (⟨w.heap.size, 0, none⟩ : Addr).add j = ⟨w.heap.size, j, none⟩ by rw [add_plain]; simp]
    exact hh) (by
    intro u hu
    exact ps_one [x] u hu)
def instB (t : Int) : Bool := decide (-1 ≤ t ∧ t < 1125899906842624)
theorem inst_yes {t : Int} (h : instB t = true) : -1 ≤ t ∧ t < 1125899906842624 := by unfold instB at h; simpa using h
theorem inst_no {t : Int} (h : instB t = false) : t < -1 ∨ (-1 ≤ t ∧ 1125899906842624 ≤ t) := by unfold instB at h; rw [decide_eq_false_iff_not] at h; omega
set_option maxHeartbeats 1000000 in
theorem isInstant_c (t : Int) (w : World) : Calls Try.prog 97 #[.int .i64 t] w fun e w' => e = .returned (.bool (instB t)) ∧ Ext w w' := by
  cases h : instB t
  · rcases inst_no h with h1 | ⟨h1, h2⟩
    · clear h
      go_enter Try.func97, Try.ntmps97
      go_wp2_with fail
      go_returns
      exact ⟨rfl, Ext.refl w⟩
    · have h3 : decide (t < 1125899906842624) = false := by rw [decide_eq_false_iff_not]; omega
      clear h h2
      go_enter Try.func97, Try.ntmps97
      go_wp2_with fail
      go_returns
      exact ⟨rfl, Ext.refl w⟩
  · obtain ⟨h1, h2⟩ := inst_yes h
    clear h
    go_enter Try.func97, Try.ntmps97
    go_wp2_with fail
    go_returns
    exact ⟨rfl, Ext.refl w⟩
set_option maxHeartbeats 1000000 in
theorem isTooGreat_c (x : Jp) (w : World) : Calls Try.prog 98 #[jm x] w fun e w' => e = .returned (.bool (tooJ x)) ∧ Ext w w' := by
  obtain ⟨p, n⟩ := x
  obtain ⟨R, hR⟩ : ∃ R, R = tooJ (p, n) := ⟨_, rfl⟩
  rw [← hR]
  unfold tooJ at hR
  by_cases h1 : 1048576 < n
  · have e : R = true := by rw [hR, decide_eq_true_iff]; exact .inl h1
    subst e
    clear hR
    go_enter Try.func98, Try.ntmps98
    go_wp2_with fail
    go_returns
    exact ⟨rfl, (Ext.refl w).alloc _⟩
  · have h1' : n ≤ 1048576 := by omega
    by_cases h2 : n < -1048576
    · have e : R = true := by rw [hR, decide_eq_true_iff]; exact .inr h2
      subst e
      clear hR h1
      go_enter Try.func98, Try.ntmps98
      go_wp2_with fail
      go_returns
      exact ⟨rfl, (Ext.refl w).alloc _⟩
    · have e : R = false := by rw [hR, decide_eq_false_iff_not]; simp only; omega
      have h2' : decide (n < -1048576) = false := by rw [decide_eq_false_iff_not]; exact h2
      have h1'' : decide (1048576 < n) = false := by rw [decide_eq_false_iff_not]; exact h1
      subst e
      clear hR h1 h2
      go_enter Try.func98, Try.ntmps98
      go_wp2_with fail
      go_returns
      exact ⟨rfl, (Ext.refl w).alloc _⟩
end Go.Proofs.Ytoghgjgaolinaaa
set_option linter.unusedVariables false
set_option linter.unusedSimpArgs false
namespace Go.Proofs.Ytoghgjgaolinaaa
open Go.RowKit
/-- What one's own block is, as a list. -/
abbrev ob (v : Value) : List Nat := v.ownBlock.toList
theorem own_fr {w w' : World} {base e size n : Nat} {v : Value} {xs : List Value} {S : List Nat} (h : w.ownsRow base e size v n xs) (k : Fr S w w') (hS : ∀ x ∈ S, x < base) : w'.ownsRow base e size v n xs := by
  refine ⟨h.1, ?_⟩
  rcases h.2 with h2 | ⟨g, cap, cur, rfl, hb, hg, hr⟩
  · exact .inl h2
  · exact .inr ⟨g, cap, cur, rfl, hb, (k.block g (lt_of_block hg) (fun m => by have := hS g m; omega)).trans hg, hr⟩
theorem ob_ge {w : World} {base e size n : Nat} {v : Value} {xs : List Value} (h : w.ownsRow base e size v n xs) : ∀ k ∈ ob v, base ≤ k ∧ k < w.heap.size := by
  intro k hk
  have hk' : v.ownBlock = some k := by simpa [ob] using hk
  rcases h.2 with ⟨rfl, _⟩ | ⟨g, cap, cur, rfl, hb, hg, _⟩
  · cases hk'
  · have : k = g := by simpa [Value.ownBlock] using hk'.symm
    subst this
    exact ⟨hb, lt_of_block hg⟩
theorem fr_grown {w w' : World} {v : Value} (h : w.grownBy w' v.ownBlock) : Fr (ob v) w w' :=
  (Fr.refl (ob v) w).grown h (fun k hk => .inl (by simp [ob, hk]))
end Go.Proofs.Ytoghgjgaolinaaa
set_option linter.unusedVariables false
set_option linter.unusedSimpArgs false
namespace Go.Proofs.Ytoghgjgaolinaaa
open Go.RowKit
attribute [local go_sem] GW.cell GW.frozen In.eq_true In.le_true In.ne In.ne' In.ne_add In.ne_add' In.lt_add Upto.le_true Upto.le_add Upto.lt_add
/-- An edge as it lies: its row's slice, and the edge. -/
abbrev Ve := Value × Ed
def ec1 (p : Ve) : List Value := [p.1, .int .i64 p.2.2.1, .int .i64 p.2.2.2]
def ec (L : List Ve) : List Value := L.flatMap ec1
theorem ec_length (L : List Ve) : (ec L).length = L.length * 3 := by
  induction L with
  | nil => rfl
  | cons p r ih => simp only [ec, ec1, List.flatMap_cons, List.length_append, List.length_cons, List.length_nil] at ih ⊢; omega
theorem ec_append (L M : List Ve) : ec (L ++ M) = ec L ++ ec M := by simp [ec]
theorem ec_cons (p : Ve) (L : List Ve) : ec (p :: L) = ec1 p ++ ec L := by simp [ec]
theorem ec_drop : ∀ (L : List Ve) (n : Nat), (ec L).drop (n * 3) = ec (L.drop n)
  | [], n => by simp [ec]
  | p :: L, 0 => by simp
  | p :: L, n + 1 => by
    rw [ec_cons, show (n + 1) * 3 = (ec1 p).length + n * 3 by simp [ec1]; omega, List.drop_append, List.drop_of_length_le (by omega), List.nil_append, Nat.add_sub_cancel_left, ec_drop L n, List.drop_succ_cons]
theorem ec_one {L : List Ve} (h : ∀ p ∈ L, p.1.oneCell' = true) : ∀ u ∈ ec L, u.oneCell' = true := by
  intro u hu
  simp only [ec, List.mem_flatMap, ec1] at hu
  obtain ⟨p, hp, hu⟩ := hu
  simp at hu
  rcases hu with rfl | rfl | rfl
  · exact h p hp
  · rfl
  · rfl
theorem ec_get : ∀ (L : List Ve) (i : Nat) (p : Ve), L[i]? = some p → ∀ j v, (ec1 p)[j]? = some v → (ec L)[i * 3 + j]? = some v
  | q :: r, 0, p, h, j, v, hv => by
    simp at h; subst h
    have hj : j < (ec1 q).length := (List.getElem?_eq_some_iff.1 hv).1
    rw [ec_cons, List.getElem?_append_left (by omega), show 0 * 3 + j = j by omega]; exact hv
  | q :: r, i + 1, p, h, j, v, hv => by
    have := ec_get r i p (by simpa using h) j v hv
    rw [ec_cons, show (i + 1) * 3 + j = (ec1 q).length + (i * 3 + j) by simp [ec1]; omega, List.getElem?_append_right (by omega), Nat.add_sub_cancel_left]
    exact this
abbrev eds (L : List Ve) : List Ed := L.map Prod.snd
/-- Edges, where they lie; neither they nor their rows lie in a block of S. -/
def Ew (w : World) (S : List Nat) (v : Value) (L : List Ve) : Prop := Sl w S 3 v L.length (ec L) ∧ ∀ p ∈ L, Rw w S p.1 p.2.1
section
variable {w w' : World} {S S' : List Nat} {v : Value} {L : List Ve}
theorem Ew.ext (h : Ew w S v L) (k : Ext w w') : Ew w' S v L := ⟨Sl.ext h.1 k, fun p hp => Sl.ext (h.2 p hp) k⟩
theorem Ew.fr (h : Ew w S v L) (k : Fr S' w w') (hs : ∀ b, b ∈ S' → b ∈ S) : Ew w' S v L := ⟨Sl.fr h.1 k hs, fun p hp => Sl.fr (h.2 p hp) k hs⟩
theorem Ew.less (h : Ew w S v L) (hs : ∀ b, b ∈ S' → b ∈ S) : Ew w S' v L := ⟨Sl.less h.1 hs, fun p hp => Sl.less (h.2 p hp) hs⟩
theorem row_one {r : List Vl} {u : Value} (h : Rw w S u r) : u.oneCell' = true := by obtain ⟨A, cap, rfl, _⟩ := h; rfl
theorem Ew.one (h : Ew w S v L) : ∀ u ∈ ec L, u.oneCell' = true := ec_one fun p hp => row_one (h.2 p hp)
theorem ew_form (h : Ew w S v L) : ∃ A cap, v = .slice A L.length cap ∧ L.length ≤ cap ∧ cap ≤ maxLen ∧
    ∀ (i : Nat) (p : Ve), L[i]? = some p → ∃ b o, A = some ⟨b, o, none⟩ ∧ b ∉ S ∧ b < w.heap.size ∧ w.cell? ⟨b, o + i * 3, none⟩ = some p.1 ∧ w.cell? ⟨b, o + i * 3 + 1, none⟩ = some (.int .i64 p.2.2.1) ∧ w.cell? ⟨b, o + i * 3 + 1 + 1, none⟩ = some (.int .i64 p.2.2.2) := by
  obtain ⟨A, cap, rfl, h1, h2, h3, h4⟩ := h.1
  refine ⟨A, cap, rfl, h1, h2, fun i p hp => ?_⟩
  have hg := ec_get L i p hp
  rcases h4 with h4 | ⟨b, o, rfl, hb, hc⟩
  · have := hg 0 _ rfl; rw [h4] at this; cases this
  · have c0 := hc _ _ (hg 0 _ rfl)
    have c1 := hc _ _ (hg 1 _ rfl)
    have c2 := hc _ _ (hg 2 _ rfl)
    exact ⟨b, o, rfl, hb, block_lt_of_cell c0, c0, c1, c2⟩
end
/-- An edge, by value. -/
abbrev em (v : Value) (x : Jp) : Value := .agg #[v, .int .i64 x.1, .int .i64 x.2]
theorem rw_val {w : World} {S : List Nat} {v : Value} {l : List Vl} (h : Rw w S v l) : ∃ A cap, v = .slice A l.length cap := by obtain ⟨A, cap, e, _⟩ := h; exact ⟨A, cap, e⟩
set_option maxHeartbeats 1000000 in
theorem hasNoRow_c (q : List Vl) (j : Jp) (v : Value) (w : World) (h : Rw w [] v q) : Calls Try.prog 56 #[em v j] w fun e w' => e = .returned (.bool (!mayR q)) ∧ Ext w w' := by
  obtain ⟨jp, jn⟩ := j
  have h1 := hide (fun w' (hX : Ext w w') => rowMay_c q v w' (Sl.ext h hX))
  obtain ⟨A, cap, rfl⟩ := rw_val h
  have hX0 := hide ((Ext.refl w).alloc (.cells #[.slice A q.length cap, .int .i64 jp, .int .i64 jn] 36))
  generalize mayR q = m at *
  clear h
  go_enter Try.func56, Try.ntmps56
  go_wp2_with (go_at_call 72; (with_reducible refine seq_gw (h1.out _ hX0.out) ?_); intro g)
  go_returns
  exact ⟨rfl, hX0.out.trans g.grown⟩
set_option maxHeartbeats 1000000 in
theorem byRow_c (q : List Vl) (j : Jp) (v : Value) (r : List Vl) (k : Jp) (u : Value) (w : World) (hq : Rw w [] v q) (hr : Rw w [] u r) : Calls Try.prog 58 #[em v j, em u k] w fun e w' => e = .returned (.int .i64 (cmpR q r)) ∧ Ext w w' := by
  obtain ⟨jp, jn⟩ := j
  obtain ⟨kp, kn⟩ := k
  have h1 := hide (fun w' (hX : Ext w w') => rowCompare_c (Sl.ext hq hX) (Sl.ext hr hX))
  obtain ⟨A, cap, rfl⟩ := rw_val hq
  obtain ⟨B, cap2, rfl⟩ := rw_val hr
  have hX0 := hide (((Ext.refl w).alloc (.cells #[.slice A q.length cap, .int .i64 jp, .int .i64 jn] 36)).alloc (.cells #[.slice B r.length cap2, .int .i64 kp, .int .i64 kn] 36))
  generalize cmpR q r = m at *
  clear hq hr
  go_enter Try.func58, Try.ntmps58
  go_wp2_with (go_at_call 71; (with_reducible refine seq_gw (h1.out _ hX0.out) ?_); intro g)
  go_returns
  exact ⟨rfl, hX0.out.trans g.grown⟩
end Go.Proofs.Ytoghgjgaolinaaa
