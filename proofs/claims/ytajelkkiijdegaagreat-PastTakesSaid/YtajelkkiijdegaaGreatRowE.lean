/-
  A helper of ours: no claim of its own. Layer 6 (row): rows that are made of rows, on both sides.
-/
import Derived.Test.YtajelkkiijdegaaGreatArgV
import Derived.Test.YtajelkkiijdegaaGreatFolS
import Derived.Test.YtajelkkiijdegaaGreatMapV
import Derived.Test.YtajelkkiijdegaaGreatMem
import Derived.Test.YtajelkkiijdegaaGreatRowA
import Derived.Test.YtajelkkiijdegaaGreatSchE
import Derived.Deep.AppendSrc
import Derived.Lib.LazyBuf
import Derived.WalkLawsBesides
import Derived.Test.YtajelkkiijdegaaGreatRows
import Derived.Handy
import Derived.WalkSpells
import Derived.WalkSmall
import Derived.Deep.LoopGhost
import Derived.BigQuiet
import Derived.Lib.AppendZerosOnto
set_option linter.unusedVariables false
set_option linter.unusedSimpArgs false
namespace Go.Proofs.YtajelkkiijdegaaGreat
open Go.RowKit Go.Deep Go.ChangeShapes
/-- A message: the slice of its row; the message. -/
abbrev Vm := Value × PM
def pms (L : List Vm) : List PM := L.map Prod.snd
def mc1 (p : Vm) : List Value := [.int .i64 p.2.1.1, .int .i64 p.2.1.2.1, .int .i64 p.2.1.2.2.1, .int .i64 p.2.1.2.2.2, p.1]
def mc (L : List Vm) : List Value := L.flatMap mc1
theorem mc_length (L : List Vm) : (mc L).length = L.length * 5 := by
  induction L with
  | nil => rfl
  | cons p r ih => simp only [mc, mc1, List.flatMap_cons, List.length_append, List.length_cons, List.length_nil] at ih ⊢; omega
theorem mc_get : ∀ (L : List Vm) (i : Nat) (p : Vm), L[i]? = some p → ∀ j v, (mc1 p)[j]? = some v → (mc L)[i * 5 + j]? = some v
  | q :: r, 0, p, h, j, v, hv => by
    simp at h; subst h
    have hj : j < (mc1 q).length := (List.getElem?_eq_some_iff.1 hv).1
    rw [show mc (q :: r) = mc1 q ++ mc r by simp [mc], List.getElem?_append_left (by omega), show 0 * 5 + j = j by omega]; exact hv
  | q :: r, i + 1, p, h, j, v, hv => by
    have := mc_get r i p (by simpa using h) j v hv
    rw [show mc (q :: r) = mc1 q ++ mc r by simp [mc], show (i + 1) * 5 + j = (mc1 q).length + (i * 5 + j) by simp [mc1]; omega, List.getElem?_append_right (by omega), Nat.add_sub_cancel_left]
    exact this
theorem mc_at (L : List Vm) (j : Nat) (u : Value) (h : (mc L)[j]? = some u) : ∃ i q k, L[i]? = some q ∧ j = i * 5 + k ∧ (mc1 q)[k]? = some u := by
  have hj : j < L.length * 5 := by
    rcases Nat.lt_or_ge j (L.length * 5) with h1 | h1
    · exact h1
    · rw [List.getElem?_eq_none (by rw [mc_length]; exact h1)] at h; cases h
  have hi : j / 5 < L.length := by omega
  refine ⟨j / 5, L[j / 5], j % 5, List.getElem?_eq_getElem hi, by omega, ?_⟩
  have hk : j % 5 < (mc1 L[j / 5]).length := by simp [mc1]; omega
  have := mc_get L (j / 5) _ (List.getElem?_eq_getElem hi) (j % 5) _ (List.getElem?_eq_getElem hk)
  rw [show j / 5 * 5 + j % 5 = j by omega, h] at this
  rw [List.getElem?_eq_getElem hk]
  exact this.symm
def Mw (w : World) (S : List Nat) (v : Value) (L : List Vm) : Prop := Sl w S 5 v L.length (mc L) ∧ ∀ p ∈ L, Rw w S p.1 p.2.2
theorem Mw.ext {w w' : World} {S : List Nat} {v : Value} {L : List Vm} (h : Mw w S v L) (k : Ext w w') : Mw w' S v L := ⟨Sl.ext h.1 k, fun p hp => Sl.ext (h.2 p hp) k⟩
theorem mw_form {w : World} {S : List Nat} {v : Value} {L : List Vm} (h : Mw w S v L) : ∃ A cap, v = .slice A L.length cap ∧ L.length ≤ cap ∧ cap ≤ maxLen ∧
    ∀ (i : Nat) (p : Vm), L[i]? = some p → ∃ b o, A = some ⟨b, o, none⟩ ∧ b ∉ S ∧ b < w.heap.size ∧ w.cell? ⟨b, o + i * 5, none⟩ = some (.int .i64 p.2.1.1) ∧ w.cell? ⟨b, o + i * 5 + 1, none⟩ = some (.int .i64 p.2.1.2.1) ∧ w.cell? ⟨b, o + i * 5 + 2, none⟩ = some (.int .i64 p.2.1.2.2.1) ∧ w.cell? ⟨b, o + i * 5 + 3, none⟩ = some (.int .i64 p.2.1.2.2.2) ∧ w.cell? ⟨b, o + i * 5 + 4, none⟩ = some p.1 := by
  obtain ⟨⟨A, cap, rfl, h1, h2, h3, h4⟩, -⟩ := h
  refine ⟨A, cap, rfl, h1, h2, fun i p hp => ?_⟩
  have hg := mc_get L i p hp
  rcases h4 with h4 | ⟨b, o, rfl, hb, hc⟩
  · have := hg 0 _ rfl; rw [h4] at this; cases this
  · have c0 := hc _ _ (hg 0 _ rfl)
    have c1 := hc _ _ (hg 1 _ rfl)
    have c2 := hc _ _ (hg 2 _ rfl)
    have c3 := hc _ _ (hg 3 _ rfl)
    have c4 := hc _ _ (hg 4 _ rfl)
    exact ⟨b, o, rfl, hb, block_lt_of_cell c0, c0, c1, c2, c3, c4⟩
def inM (m : PM) : Prop := (inI m.1.1 ∧ inI m.1.2.1 ∧ inI m.1.2.2.1 ∧ inI m.1.2.2.2) ∧ ∀ a ∈ m.2, inI a.2.1
section
variable {H : Type} {enc : TypeId × Value → H} {P : Program} {w : World} {base fuel : Nat} {held : Bool}
theorem open_msgs {t eo e : TypeId} {f0 f1 f2 f3 f4 g0 g1 g2 : Field} {v : Value} {x : DataW H × List MemPlace} (ht : P.underlying t = some (.slice eo)) (hs : P.underlying eo = some (.struct #[f0, f1, f2, f3, f4]))
    (hC : P.cellsOf eo = 5) (o0 : f0.offset = 0) (o1 : f1.offset = 1) (o2 : f2.offset = 2) (o3 : f3.offset = 3) (o4 : f4.offset = 4)
    (c0 : P.cellsOf f0.type = 1) (c1 : P.cellsOf f1.type = 1) (c2 : P.cellsOf f2.type = 1) (c3 : P.cellsOf f3.type = 1) (c4 : P.cellsOf f4.type = 1)
    (u0 : P.underlying f0.type = some (.int .i64)) (u1 : P.underlying f1.type = some (.int .i64)) (u2 : P.underlying f2.type = some (.int .i64)) (u3 : P.underlying f3.type = some (.int .i64)) (u4 : P.underlying f4.type = some (.slice e))
    (he : P.underlying e = some (.struct #[g0, g1, g2])) (ce : P.cellsOf e = 3) (p0 : g0.offset = 0) (p1 : g1.offset = 1) (p2 : g2.offset = 2) (d0 : P.cellsOf g0.type = 1) (d1 : P.cellsOf g1.type = 1) (d2 : P.cellsOf g2.type = 1)
    (y0 : P.underlying g0.type = some (.int .i64)) (y1 : P.underlying g1.type = some (.int .i64)) (y2 : P.underlying g2.type = some .string)
    (h : DataW.trod enc P w base (fun _ => true) held fuel t [v] = some x) : ∃ L : List Vm, L.length = sliceLen x.1 ∧ Mw w [] v L ∧ ∀ p ∈ L, inM p.2 := by
  rcases open_slice ht h with ⟨h1, rfl⟩ | ⟨a, len, cap, m, n, D, Pl, h1, _, hl, hm, hmm, rfl, hel⟩
  · obtain rfl : v = .slice none 0 0 := by simpa using h1
    exact ⟨[], rfl, ⟨Sl.nil _ _ _, by simp⟩, by simp⟩
  · obtain rfl : v = .slice (some a) len cap := by simpa using h1
    simp only [if_true] at hmm
    have each : ∀ i, i < len → ∃ p : Vm, (∀ k u, (mc1 p)[k]? = some u → w.cell? ((a.add (i * 5)).add k) = some u) ∧ Rw w [] p.1 p.2.2 ∧ inM p.2 := by
      intro i hi
      obtain ⟨cs, hc, htr⟩ := hel i (by omega)
      rw [hC] at hc
      obtain ⟨_, hlen, hat⟩ := World.cells?_some hc
      obtain ⟨xs, k, _, _, _, hxl, hf⟩ := DataW.trod_struct hs htr
      match cs, hlen with
      | [w0, w1, w2, w3, w4], _ =>
        match xs, hxl with
        | [z0, z1, z2, z3, z4], _ =>
          have q0 := hf 0 f0 rfl
          have q1 := hf 1 f1 rfl
          have q2 := hf 2 f2 rfl
          have q3 := hf 3 f3 rfl
          have q4 := hf 4 f4 rfl
          rw [o0, c0] at q0
          rw [o1, c1] at q1
          rw [o2, c2] at q2
          rw [o3, c3] at q3
          rw [o4, c4] at q4
          obtain ⟨a0, e0, _, k0⟩ := DataW.trod_int u0 (show DataW.trod enc P w base (fun _ => true) held k f0.type [w0] = some _ from by simpa using q0)
          obtain ⟨a1, e1, _, k1⟩ := DataW.trod_int u1 (show DataW.trod enc P w base (fun _ => true) held k f1.type [w1] = some _ from by simpa using q1)
          obtain ⟨a2, e2, _, k2⟩ := DataW.trod_int u2 (show DataW.trod enc P w base (fun _ => true) held k f2.type [w2] = some _ from by simpa using q2)
          obtain ⟨a3, e3, _, k3⟩ := DataW.trod_int u3 (show DataW.trod enc P w base (fun _ => true) held k f3.type [w3] = some _ from by simpa using q3)
          simp at e0 e1 e2 e3
          subst e0; subst e1; subst e2; subst e3
          obtain ⟨l, _, hl, hq⟩ := open_row u4 he ce p0 p1 p2 d0 d1 d2 y0 y1 y2 (show DataW.trod enc P w base (fun _ => true) held k f4.type [w4] = some _ from by simpa using q4)
          refine ⟨(w4, ((a0, a1, a2, a3), l)), fun k u hu => ?_, hl, ⟨wf_i64 k0, wf_i64 k1, wf_i64 k2, wf_i64 k3⟩, hq⟩
          have hk : k < 5 := by simpa [mc1] using (List.getElem?_eq_some_iff.1 hu).1
          rw [hat k hk]
          exact hu
    obtain ⟨p, hp⟩ := choose_lt (α := Vm) (p := fun i p => (∀ k u, (mc1 p)[k]? = some u → w.cell? ((a.add (i * 5)).add k) = some u) ∧ Rw w [] p.1 p.2.2 ∧ inM p.2) each
    refine ⟨(List.range len).map p, by simp [sliceLen], ⟨⟨some a, cap, by simp, by simpa using hl, hm, by rw [mc_length], ?_⟩, ?_⟩, ?_⟩
    · by_cases h0 : len = 0
      · left; subst h0; rfl
      right
      have hz := (hp 0 (by omega)).1 0 _ rfl
      obtain ⟨b, o, rfl⟩ := addr_plain (i := 0) (a := a) (by
        have e0 : (a.add (0 * 5)).add 0 = a.add 0 := by rw [Nat.zero_mul]; exact (show (a.add 0).add 0 = a.add (0 + 0) from Go.Deep.add_add ..)
        rw [e0] at hz; exact hz) rfl
      refine ⟨b, o, rfl, by simp, fun j u hu => ?_⟩
      obtain ⟨i, q, k, hq, rfl, hk⟩ := mc_at _ j u hu
      have hi : i < len := by
        rcases Nat.lt_or_ge i len with h | h
        · exact h
        · rw [List.getElem?_eq_none (by simpa using h)] at hq; cases hq
      have hq' : q = p i := by simpa [hi] using hq.symm
      subst hq'
      have := (hp i hi).1 k u hk
      rw [add_plain, add_plain, Nat.add_assoc] at this
      exact this
    · intro q hq
      obtain ⟨i, hi, rfl⟩ := List.mem_map.1 hq
      exact (hp i (List.mem_range.1 hi)).2.1
    · intro q hq
      obtain ⟨i, hi, rfl⟩ := List.mem_map.1 hq
      exact (hp i (List.mem_range.1 hi)).2.2
end
end Go.Proofs.YtajelkkiijdegaaGreat
set_option linter.unusedVariables false
set_option linter.unusedSimpArgs false
namespace Go.Proofs.YtajelkkiijdegaaGreat
open Go.Maps (Keyed)
section
variable {α : Type} {f : α → Lit × Value} {P : Program} {k : TypeId} {w w' : World} {b n : Nat} {M : List α}
/-- 'v, ok := m[k]'. -/
theorem Mv.lookOk {t e : TypeId} (h : Mv w P k f b n M) (K : Keyed P k) (ht : P.underlying t = some (.map k e)) {z : Value} (hz : (zeroValue e).run P w = .ok z w) {key : Value} {kl : Lit} (hkey : keyOf P k key = some kl) : (Instr.lookup t (.map (some b)) key true).run P w = .ok (.tuple #[((getM f M kl).map fun q => (f q).2).getD z, .bool (getM f M kl).isSome]) w := by
  have hp := h
  obtain ⟨es0, h0, p0⟩ := hp
  obtain ⟨es, h1, h2⟩ := h.at K kl z
  obtain ⟨v, ps, hrun, hv⟩ := h1.look_ok K ht hz (zd := .held z) (zp := []) rfl hkey
  rw [h2] at hv
  unfold anyE at hv
  simp only [Option.some.injEq, Prod.mk.injEq, DataW.held.injEq] at hv
  obtain ⟨v0, ps0, hrun0, hv0⟩ := h0.look_ok K ht hz (zd := .held z) (zp := []) rfl hkey
  have e : Go.Maps.has (DataW.map es0) kl = (getM f M kl).isSome := by
    show es0.any (fun p => p.1.sameKey kl) = _
    rw [any_permM p0, List.any_map, getM, Bool.eq_iff_iff, List.any_eq_true, List.find?_isSome]
    exact Iff.rfl
  rw [hrun] at hrun0
  simp only [Result.ok.injEq, Value.tuple.injEq, and_true] at hrun0
  have e2 : Go.Maps.has (DataW.map es) kl = Go.Maps.has (DataW.map es0) kl := by
    have := congrArg (fun a : Array Value => a[1]?) hrun0
    simpa using this
  rw [hrun, hv.1, e2, e]
end
end Go.Proofs.YtajelkkiijdegaaGreat
set_option linter.unusedVariables false
set_option linter.unusedSimpArgs false
namespace Go.Proofs.YtajelkkiijdegaaGreat
open Go.RowKit
/-- A jump: where, and by how much. -/
abbrev Jp := Int × Int
/-- The sum of the jumps that are not above t. -/
def jv : List Jp → Int → Int
  | [], _ => 0
  | j :: r, t => (if j.1 ≤ t then j.2 else 0) + jv r t
/-- The sum of all. -/
def js : List Jp → Int
  | [] => 0
  | j :: r => j.2 + js r
/-- Rising. -/
abbrev Asc (f : List Jp) : Prop := f.Pairwise fun a b => a.1 < b.1
/-- In the one form. -/
def Canon (f : List Jp) : Prop := Asc f ∧ ∀ j ∈ f, j.2 ≠ 0
/-- The jumps between values at places. -/
def tell (v : Int → Int) : List Int → Int → List Jp
  | [], _ => []
  | p :: r, was => if v p = was then tell v r (v p) else (p, v p - was) :: tell v r (v p)
/-- A place more, where it belongs. -/
def ins (l : List Int) (t : Int) : List Int := if t ∈ l then l else l.filter (fun x => decide (x < t)) ++ t :: l.filter (fun x => decide (t < x))
end Go.Proofs.YtajelkkiijdegaaGreat
set_option linter.unusedVariables false
set_option linter.unusedSimpArgs false
namespace Go.Proofs.YtajelkkiijdegaaGreat
open Go.RowKit
/-! ### Norm -/
/-! ### Two at once -/
def nxt : List Jp → Int
  | [] => 1125899906842624
  | j :: _ => j.1
/-- Two functions, gone through up to a place. -/
structure Comb (op : Int → Int → Int) (f1 f2 g1 g2 made : List Jp) : Prop where
  canon : Canon made
  lt : ∀ j ∈ made, j.1 < min (nxt f2) (nxt g2)
  l1 : ∀ j ∈ f1, j.1 < min (nxt f2) (nxt g2)
  l2 : ∀ j ∈ g1, j.1 < min (nxt f2) (nxt g2)
  sum : js made = op (js f1) (js g1)
  at' : ∀ t, t < min (nxt f2) (nxt g2) → jv made t = op (jv f1 t) (jv g1 t)
  len : made.length ≤ f1.length + g1.length
/-! ### The other sign; parts -/
/-! ### Values -/
end Go.Proofs.YtajelkkiijdegaaGreat
set_option linter.unusedVariables false
set_option linter.unusedSimpArgs false
namespace Go.Proofs.YtajelkkiijdegaaGreat
open Go.RowKit
/-- An edge: its row, where, by how much. -/
abbrev Ed := List Vl × Jp
abbrev Gp := List Vl × List Jp
end Go.Proofs.YtajelkkiijdegaaGreat
set_option linter.unusedVariables false
set_option linter.unusedSimpArgs false
namespace Go.Proofs.YtajelkkiijdegaaGreat
open Go.RowKit
attribute [local go_sem] GW.cell GW.frozen In.eq_true In.le_true In.ne In.ne' In.ne_add In.ne_add' In.lt_add Upto.le_true Upto.le_add Upto.lt_add
theorem nanI_c (n : Int) (w : World) : Calls Tryz.prog 158 #[.int .i64 n] w fun e w' => e = .returned (.bool false) ∧ Ext w w' := by
  go_enter Tryz.func158, Tryz.ntmps158
  go_wp2_with fail
  go_returns
  exact ⟨rfl, Ext.refl w⟩
set_option maxHeartbeats 1000000 in
theorem cmpInt_c (n m : Int) (w : World) : Calls Tryz.prog 102 #[.int .i64 n, .int .i64 m] w fun e w' => e = .returned (.int .i64 (cmpN n m)) ∧ Ext w w' := by
  obtain ⟨r, hr⟩ : ∃ r, r = cmpN n m := ⟨_, rfl⟩
  rw [← hr]
  unfold cmpN at hr
  by_cases h1 : n < m
  · rw [if_pos h1] at hr
    subst hr
    go_enter Tryz.func102, Tryz.ntmps102
    go_wp2_with (go_at_call 158; (first | (with_reducible refine seq_gw' (nanI_c _ _) ?_) | (with_reducible refine seq_gw (nanI_c _ _) ?_)); intro g)
    go_returns
    exact ⟨rfl, g.grown⟩
  · by_cases h2 : m < n
    · rw [if_neg h1, if_pos h2] at hr
      subst hr
      go_enter Tryz.func102, Tryz.ntmps102
      go_wp2_with (go_at_call 158; (first | (with_reducible refine seq_gw' (nanI_c _ _) ?_) | (with_reducible refine seq_gw (nanI_c _ _) ?_)); intro g)
      go_returns
      exact ⟨rfl, g.grown⟩
    · rw [if_neg h1, if_neg h2] at hr
      subst hr
      have e : n = m := by omega
      subst e
      go_enter Tryz.func102, Tryz.ntmps102
      go_wp2_with (go_at_call 158; (first | (with_reducible refine seq_gw' (nanI_c _ _) ?_) | (with_reducible refine seq_gw (nanI_c _ _) ?_)); intro g)
      go_returns
      exact ⟨rfl, g.grown⟩
section
variable {l m : List Vl} {v u : Value} {w : World}
end
end Go.Proofs.YtajelkkiijdegaaGreat
set_option linter.unusedVariables false
set_option linter.unusedSimpArgs false
namespace Go.Proofs.YtajelkkiijdegaaGreat
open Go.RowKit
attribute [local go_sem] GW.cell GW.frozen In.eq_true In.le_true In.ne In.ne' In.ne_add In.ne_add' In.lt_add Upto.le_true Upto.le_add Upto.lt_add
section
variable {l m : List Vl} {v u : Value} {w : World}
end
end Go.Proofs.YtajelkkiijdegaaGreat
set_option linter.unusedVariables false
set_option linter.unusedSimpArgs false
namespace Go.Proofs.YtajelkkiijdegaaGreat
open Go.RowKit
end Go.Proofs.YtajelkkiijdegaaGreat
set_option linter.unusedVariables false
set_option linter.unusedSimpArgs false
namespace Go.Proofs.YtajelkkiijdegaaGreat
open Go.RowKit
attribute [local go_sem] GW.cell GW.frozen In.eq_true In.le_true In.ne In.ne' In.ne_add In.ne_add' In.lt_add Upto.le_true Upto.le_add Upto.lt_add
end Go.Proofs.YtajelkkiijdegaaGreat
set_option linter.unusedVariables false
set_option linter.unusedSimpArgs false
namespace Go.Proofs.YtajelkkiijdegaaGreat
open Go.RowKit
/-- What one's own block is, as a list. -/
abbrev ob (v : Value) : List Nat := v.ownBlock.toList
theorem own_fr {w w' : World} {base e size n : Nat} {v : Value} {xs : List Value} {S : List Nat} (h : w.ownsRow base e size v n xs) (k : Fr S w w') (hS : ∀ x ∈ S, x < base) : w'.ownsRow base e size v n xs := by
  refine ⟨h.1, ?_⟩
  rcases h.2 with h2 | ⟨g, cap, cur, rfl, hb, hg, hr⟩
  · exact .inl h2
  · exact .inr ⟨g, cap, cur, rfl, hb, (k.block g (lt_of_block hg) (fun m => by have := hS g m; omega)).trans hg, hr⟩
theorem ob_ge {w : World} {base e size n : Nat} {v : Value} {xs : List Value} (h : w.ownsRow base e size v n xs) : ∀ k ∈ ob v, base ≤ k ∧ k < w.heap.size := by
  intro k hk
  have hk' : v.ownBlock = some k := by simpa [ob] using hk
  rcases h.2 with ⟨rfl, _⟩ | ⟨g, cap, cur, rfl, hb, hg, _⟩
  · cases hk'
  · have : k = g := by simpa [Value.ownBlock] using hk'.symm
    subst this
    exact ⟨hb, lt_of_block hg⟩
theorem fr_grown {w w' : World} {v : Value} (h : w.grownBy w' v.ownBlock) : Fr (ob v) w w' :=
  (Fr.refl (ob v) w).grown h (fun k hk => .inl (by simp [ob, hk]))
end Go.Proofs.YtajelkkiijdegaaGreat
set_option linter.unusedVariables false
set_option linter.unusedSimpArgs false
namespace Go.Proofs.YtajelkkiijdegaaGreat
open Go.RowKit
attribute [local go_sem] GW.cell GW.frozen In.eq_true In.le_true In.ne In.ne' In.ne_add In.ne_add' In.lt_add Upto.le_true Upto.le_add Upto.lt_add
/-- An edge as it lies: its row's slice, and the edge. -/
abbrev Ve := Value × Ed
def ec1 (p : Ve) : List Value := [p.1, .int .i64 p.2.2.1, .int .i64 p.2.2.2]
def ec (L : List Ve) : List Value := L.flatMap ec1
section
variable {w w' : World} {S S' : List Nat} {v : Value} {L : List Ve}
end
theorem rw_val {w : World} {S : List Nat} {v : Value} {l : List Vl} (h : Rw w S v l) : ∃ A cap, v = .slice A l.length cap := by obtain ⟨A, cap, e, _⟩ := h; exact ⟨A, cap, e⟩
end Go.Proofs.YtajelkkiijdegaaGreat
set_option linter.unusedVariables false
set_option linter.unusedSimpArgs false
namespace Go.Proofs.YtajelkkiijdegaaGreat
open Go.RowKit
attribute [local go_sem] GW.cell GW.frozen In.eq_true In.le_true In.ne In.ne' In.ne_add In.ne_add' In.lt_add Upto.le_true Upto.le_add Upto.lt_add
theorem tVal : ElemT Tryz.prog 35 83 (.agg #[.int .i64 0, .int .i64 0, .string ⟨#[]⟩]) 3 32 := ElemT.mk' Tryz.underlying35 (by kernel_rfl) rfl (by omega)
theorem own_appR {w : World} {B : Nat} {v : Value} {l m : List Vl} (h : w.ownsRow B 83 3 v (l.length + m.length) (rc l ++ rc m)) : OwnR w B v (l ++ m) := by
  unfold OwnR; rw [List.length_append, rc_append]; exact h
set_option maxHeartbeats 1000000 in
set_option maxRecDepth 100000 in
theorem rowClone_c (l : List Vl) (v : Value) (w : World) (h : Rw w [] v l) (hz : l.length * 32 ≤ 140737488351232) : Calls Tryz.prog 103 #[v] w fun e w' => ∃ v', e = .returned v' ∧ OwnR w' w.heap.size v' l ∧ Ext w w' := by
  obtain ⟨A, cap, rfl, hl, hm, -⟩ := rw_form h
  have hq := fun w => Lib.run_eql_slice_nil (P := Tryz.prog) w 35 83 A l.length cap 0 0 Tryz.underlying35
  cases A with
  | none =>
    have hl0 : l = [] := by
      obtain ⟨A', cap', e, _, _, h3, h4⟩ := h
      rcases h4 with h4 | ⟨b, o, rfl, _⟩
      · have := congrArg List.length h4; rw [rc_length] at this; exact List.eq_nil_of_length_eq_zero (by simp at this; omega)
      · cases e
    subst hl0
    clear h hq
    have hq0 := fun w => Lib.run_eql_slice_nil (P := Tryz.prog) w 35 83 none 0 cap 0 0 Tryz.underlying35
    show Calls Tryz.prog 103 #[.slice none 0 cap] w fun e w' => ∃ v', e = .returned v' ∧ OwnR w' w.heap.size v' [] ∧ Ext w w'
    go_enter Tryz.func103, Tryz.ntmps103
    go_wp2_with fail
    go_returns
    exact ⟨_, rfl, World.ownsRow_nil _ _ _ _, Ext.refl w⟩
  | some a =>
    have hlit := hide (World.ownsRow_lit (base := w.heap.size) (e := 83) (size := 3) w #[] 0 (Nat.le_refl _) (by decide) rfl)
    have hv := hide h
    clear h
    go_enter Tryz.func103, Tryz.ntmps103
    go_wp2_with (at_builtin; (refine wpl_app tVal rfl (.tmp 5) (.tmp 6) rfl rfl hlit.out rfl (src_sl Tryz.underlying35 (Sl.ext hv.out ((Ext.refl w).alloc _)) (rc_one _) (by omega)) (by unfold maxLen; omega) (by omega) (by simp) ?_; intro v1 w1 ho1 hg1 _))
    go_returns
    have ho2 : OwnR w1 w.heap.size v1 l := by have := own_appR (l := []) ho1; simpa using this
    exact ⟨_, rfl, ho2, ext_grown ((Ext.refl w).alloc _) hg1 (fun k hk => (hlit.out.lt k hk).1)⟩
set_option maxHeartbeats 1000000 in
theorem rowCopy_c (l : List Vl) (v : Value) (w : World) (h : Rw w [] v l) (hz : l.length * 32 ≤ 140737488351232) : Calls Tryz.prog 53 #[v] w fun e w' => ∃ v', e = .returned v' ∧ OwnR w' w.heap.size v' l ∧ Ext w w' := by
  have hc := hide (rowClone_c l v w h hz)
  clear h
  go_enter Tryz.func53, Tryz.ntmps53
  go_wp2_with (go_at_call 103; refine hc.out.mono ?_; rintro ee w1 ⟨v1, rfl, ho1, hx1⟩)
  go_returns
  exact ⟨_, rfl, ho1, hx1⟩
end Go.Proofs.YtajelkkiijdegaaGreat
