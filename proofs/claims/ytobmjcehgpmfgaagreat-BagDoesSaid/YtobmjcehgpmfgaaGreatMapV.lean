/-
  A helper of ours: no claim of its own. A map in memory as a list of its entries, in any order; what lookup, update, delete and range make of it, whatever the elements.
-/
import Derived.Test.YtobmjcehgpmfgaaGreatStepT
import Derived.Test.YtobmjcehgpmfgaaGreatMem
import Derived.ChangeSlices
import Derived.Deep.SlicePairs
import Derived.Deep.Matrix
import Derived.SizedLaws
import Derived.Test.YtobmjcehgpmfgaaGreatRows
import Derived.Handy
import Derived.WalkSpells
import Derived.WalkSmall
import Derived.Deep.LoopGhost
import Derived.BigQuiet
import Derived.WalkLawsBesides
import Derived.Test.YtobmjcehgpmfgaaGreatEdgS
import Derived.Test.YtobmjcehgpmfgaaGreatRowD
import Derived.Maps.RangeWalk
import Derived.Maps.OwnSet
set_option linter.unusedVariables false
set_option linter.unusedSimpArgs false
namespace Go.Proofs.YtobmjcehgpmfgaaGreat
open Go.RowKit
theorem full_zero {f : List Jp} : full f = 0 ↔ mayJ f = true := by
  unfold full
  cases mayJ f
  · simp
  · simp
theorem twE_zero {op : Int → Int → Int} {f g : List Jp} : twE op f g = 0 ↔ mayJ f = true ∧ mayJ g = true ∧ mayJ (opd op f g) = true := by
  unfold twE
  cases mayJ f <;> cases mayJ g <;> simp [full_zero]
theorem ahE_zero {f : List Jp} {t : Int} : ahE f t = 0 ↔ mayJ f = true ∧ mayJ (ahL f t) = true := by
  unfold ahE; cases mayJ f <;> simp [full_zero]
theorem reE_zero {f : List Jp} {t : Int} : reE f t = 0 ↔ mayJ f = true ∧ mayJ (reL f t) = true := by
  unfold reE; cases mayJ f <;> simp [full_zero]
theorem reC_val {f : List Jp} (hf : mayJ f = true) (t u : Int) (hu : -1 ≤ u) : jv (reC f t) u = js (cutL f t) + jv (cutR f t) u := by
  unfold reC; split
  · rw [jv, if_pos (by simp only; omega)]
  · rename_i h0; simp only [ne_eq, Decidable.not_not] at h0; rw [h0]; omega
theorem re_right {f : List Jp} {t p : Int} (h : reE f t = 0) (hp : t ≤ p) (h0 : 0 ≤ t) (ht : t < 1125899906842624) : atV (reR f t) p = atV f p := by
  unfold reR; rw [if_pos h]
  obtain ⟨hf, ha⟩ := reE_zero.1 h
  unfold atV; rw [hf, ha]
  simp only [if_true]
  rw [← rest_code hf t ht, reC_val hf t p (by omega)]
  have e := jv_append (cutL f t) (cutR f t) p
  rw [cut_eq, jv_high (f := cutL f t) (fun j hj => by have := cutL_lt f t j hj; omega)] at e
  exact e.symm
theorem re_left {f : List Jp} {t p : Int} (h : reE f t = 0) (hp : p < t) (hp1 : -1 ≤ p) (ht : t < 1125899906842624) : atV (reR f t) p = atV f (t - 1) := by
  unfold reR; rw [if_pos h]
  obtain ⟨hf, ha⟩ := reE_zero.1 h
  unfold atV; rw [hf, ha]
  simp only [if_true]
  have hc := (mayJ_canon hf).1
  rw [← rest_code hf t ht, reC_val hf t p (by omega), jv_low (f := cutR f t) (fun j hj => by have := cutR_ge hc t j hj; omega), cutL_js hc]; omega
end Go.Proofs.YtobmjcehgpmfgaaGreat
set_option linter.unusedVariables false
set_option linter.unusedSimpArgs false
namespace Go.Proofs.YtobmjcehgpmfgaaGreat
open Go.RowKit Go.Deep Go.ChangeShapes

section
variable {H : Type} {enc : TypeId × Value → H} {P : Program} {w : World} {base fuel : Nat} {held : Bool}
theorem addr_plain {a : Addr} {i : Nat} {v : Value} (h : w.cell? (a.add i) = some v) (h0 : i = 0) : ∃ b o, a = ⟨b, o, none⟩ := by
  subst h0
  have := World.cell?_spot h
  obtain ⟨b, o, s⟩ := a
  simp [Addr.add] at this
  subst this
  exact ⟨b, o, rfl⟩
theorem wf_i64 {z : Int} (h : (Lit.int .i64 z).wf = true) : -9223372036854775808 ≤ z ∧ z ≤ 9223372036854775807 := by simpa [Lit.wf, IntKind.min, IntKind.max, IntKind.bits, IntKind.signed] using h

/-- How many elements a reading of a slice has, and no spare beyond. -/
def sliceLen : DataW H → Nat
  | .slice elems spare => elems.length
  | _ => 0

/-- Pairs of numbers as cells. -/
def ps (l : List (Int × Int)) : List Value := l.flatMap fun p => [.int .i64 p.1, .int .i64 p.2]
theorem ps_length (l : List (Int × Int)) : (ps l).length = l.length * 2 := by
  induction l with
  | nil => rfl
  | cons p r ih => simp only [ps, List.flatMap_cons, List.length_append, List.length_cons, List.length_nil] at ih ⊢; omega
theorem ps_get : ∀ (l : List (Int × Int)) (i : Nat) (p : Int × Int), l[i]? = some p → (ps l)[i * 2]? = some (.int .i64 p.1) ∧ (ps l)[i * 2 + 1]? = some (.int .i64 p.2)
  | q :: r, 0, p, h => by simp at h; subst h; exact ⟨rfl, rfl⟩
  | q :: r, i + 1, p, h => by
    have := ps_get r i p (by simpa using h)
    rw [show (i + 1) * 2 = i * 2 + 1 + 1 by omega]
    simpa [ps] using this
end
end Go.Proofs.YtobmjcehgpmfgaaGreat
set_option linter.unusedVariables false
set_option linter.unusedSimpArgs false
namespace Go.Proofs.YtobmjcehgpmfgaaGreat
open Go.RowKit
attribute [local go_sem] GW.cell GW.frozen In.eq_true In.le_true In.ne In.ne' In.ne_add In.ne_add' In.lt_add Upto.le_true Upto.le_add Upto.lt_add
theorem ps_append (l m : List Jp) : ps (l ++ m) = ps l ++ ps m := by simp [ps]
theorem ps_drop (l : List Jp) : ∀ n, (ps l).drop (n * 2) = ps (l.drop n) := by
  induction l with
  | nil => intro n; simp [ps]
  | cons p r ih =>
    intro n
    rcases n with _ | n
    · simp [ps]
    · rw [show (n + 1) * 2 = n * 2 + 1 + 1 by omega]
      simpa [ps] using ih n
theorem ps_one (l : List Jp) : ∀ u ∈ ps l, u.oneCell' = true := by
  intro u hu
  simp only [ps, List.mem_flatMap] at hu
  obtain ⟨a, _, hu⟩ := hu
  simp at hu
  rcases hu with rfl | rfl <;> rfl
/-- Jumps, where they lie. -/
abbrev Jw (w : World) (S : List Nat) (v : Value) (l : List Jp) : Prop := Sl w S 2 v l.length (ps l)
abbrev OwnJ (w : World) (base : Nat) (v : Value) (l : List Jp) : Prop := w.ownsRow base 133 2 v l.length (ps l)
theorem jw_form {w : World} {S : List Nat} {v : Value} {l : List Jp} (h : Jw w S v l) : ∃ A cap, v = .slice A l.length cap ∧ l.length ≤ cap ∧ cap ≤ maxLen ∧
    ∀ (i : Nat) (x : Jp), l[i]? = some x → ∃ b o, A = some ⟨b, o, none⟩ ∧ b ∉ S ∧ b < w.heap.size ∧ w.cell? ⟨b, o + i * 2, none⟩ = some (.int .i64 x.1) ∧ w.cell? ⟨b, o + i * 2 + 1, none⟩ = some (.int .i64 x.2) := by
  obtain ⟨A, cap, rfl, h1, h2, h3, h4⟩ := h
  refine ⟨A, cap, rfl, h1, h2, fun i x hx => ?_⟩
  obtain ⟨g0, g1⟩ := ps_get l i x hx
  rcases h4 with h4 | ⟨b, o, rfl, hb, hc⟩
  · rw [h4] at g0; cases g0
  · have c0 := hc _ _ g0
    have c1 := hc _ _ g1
    exact ⟨b, o, rfl, hb, block_lt_of_cell c0, c0, c1⟩
theorem jcell_later {w wr : World} (h : Ext w wr) {b o : Nat} {u : Value} (hc : w.cell? ⟨b, o, none⟩ = some u) : wr.cell? ⟨b, o, none⟩ = some u :=
  (World.cell?_of_block (a := ⟨b, o, none⟩) (h.block b (block_lt_of_cell hc))).trans hc
theorem jdrop_cons {α : Type} {l : List α} {k : Nat} {x : α} (h : l[k]? = some x) : l.drop k = x :: l.drop (k + 1) := by
  have hk := (List.getElem?_eq_some_iff.1 h).1
  rw [List.drop_eq_getElem_cons hk]
  rw [List.getElem?_eq_getElem hk] at h
  rw [Option.some.inj h]
theorem take_snoc {α : Type} {l : List α} {k : Nat} {x : α} (h : l[k]? = some x) : l.take (k + 1) = l.take k ++ [x] := by
  rw [List.take_add_one, h]; rfl
theorem tJmp : ElemT Tryz.prog 46 133 (.agg #[.int .i64 0, .int .i64 0]) 2 16 := ElemT.mk' Tryz.underlying46 (by kernel_rfl) rfl (by omega)
theorem own_appJ {w : World} {B : Nat} {v : Value} {l m : List Jp} (h : w.ownsRow B 133 2 v (l.length + m.length) (ps l ++ ps m)) : OwnJ w B v (l ++ m) := by
  unfold OwnJ; rw [List.length_append, ps_append]; exact h
theorem own_jw {w : World} {B : Nat} {S : List Nat} {v : Value} {l : List Jp} (h : OwnJ w B v l) (hs : ∀ b, b ∈ S → b < B) : Jw w S v l := Sl.own h hs
/-- A jump by value. -/
abbrev jm (x : Jp) : Value := .agg #[.int .i64 x.1, .int .i64 x.2]
theorem src_jmp {P : Program} {tx e' : TypeId} (hk : P.underlying tx = some (.slice e')) (w : World) (x : Jp) (E : TypeId) : Src P 2 tx (.slice (some ⟨w.heap.size, 0, none⟩) 1 1) 1 (ps [x]) (w.alloc (.cells #[.int .i64 x.1, .int .i64 x.2] E)) :=
  Src.ofSlice _ hk _ 1 1 (ps [x]) (by simp [ps]) (fun j u hj => by
    have hj' : j < 2 := by
      have := (List.getElem?_eq_some_iff.1 hj).1
      simpa [ps] using this
    have hh := (Ob.new w E [.int .i64 x.1, .int .i64 x.2]).cell j hj
    rw [show (⟨w.heap.size, 0, none⟩ : Addr).add j = ⟨w.heap.size, j, none⟩ by rw [add_plain]; simp]
    exact hh) (by
    intro u hu
    exact ps_one [x] u hu)
def instB (t : Int) : Bool := decide (-1 ≤ t ∧ t < 1125899906842624)
theorem inst_yes {t : Int} (h : instB t = true) : -1 ≤ t ∧ t < 1125899906842624 := by unfold instB at h; simpa using h
theorem inst_no {t : Int} (h : instB t = false) : t < -1 ∨ (-1 ≤ t ∧ 1125899906842624 ≤ t) := by unfold instB at h; rw [decide_eq_false_iff_not] at h; omega
set_option maxHeartbeats 1000000 in
theorem isInstant_c (t : Int) (w : World) : Calls Tryz.prog 202 #[.int .i64 t] w fun e w' => e = .returned (.bool (instB t)) ∧ Ext w w' := by
  cases h : instB t
  · rcases inst_no h with h1 | ⟨h1, h2⟩
    · clear h
      go_enter Tryz.func202, Tryz.ntmps202
      go_wp2_with fail
      go_returns
      exact ⟨rfl, Ext.refl w⟩
    · have h3 : decide (t < 1125899906842624) = false := by rw [decide_eq_false_iff_not]; omega
      clear h h2
      go_enter Tryz.func202, Tryz.ntmps202
      go_wp2_with fail
      go_returns
      exact ⟨rfl, Ext.refl w⟩
  · obtain ⟨h1, h2⟩ := inst_yes h
    clear h
    go_enter Tryz.func202, Tryz.ntmps202
    go_wp2_with fail
    go_returns
    exact ⟨rfl, Ext.refl w⟩
set_option maxHeartbeats 1000000 in
theorem isTooGreat_c (x : Jp) (w : World) : Calls Tryz.prog 203 #[jm x] w fun e w' => e = .returned (.bool (tooJ x)) ∧ Ext w w' := by
  obtain ⟨p, n⟩ := x
  obtain ⟨R, hR⟩ : ∃ R, R = tooJ (p, n) := ⟨_, rfl⟩
  rw [← hR]
  unfold tooJ at hR
  by_cases h1 : 1048576 < n
  · have e : R = true := by rw [hR, decide_eq_true_iff]; exact .inl h1
    subst e
    clear hR
    go_enter Tryz.func203, Tryz.ntmps203
    go_wp2_with fail
    go_returns
    exact ⟨rfl, (Ext.refl w).alloc _⟩
  · have h1' : n ≤ 1048576 := by omega
    by_cases h2 : n < -1048576
    · have e : R = true := by rw [hR, decide_eq_true_iff]; exact .inr h2
      subst e
      clear hR h1
      go_enter Tryz.func203, Tryz.ntmps203
      go_wp2_with fail
      go_returns
      exact ⟨rfl, (Ext.refl w).alloc _⟩
    · have e : R = false := by rw [hR, decide_eq_false_iff_not]; simp only; omega
      have h2' : decide (n < -1048576) = false := by rw [decide_eq_false_iff_not]; exact h2
      have h1'' : decide (1048576 < n) = false := by rw [decide_eq_false_iff_not]; exact h1
      subst e
      clear hR h1 h2
      go_enter Tryz.func203, Tryz.ntmps203
      go_wp2_with fail
      go_returns
      exact ⟨rfl, (Ext.refl w).alloc _⟩
end Go.Proofs.YtobmjcehgpmfgaaGreat
set_option linter.unusedVariables false
set_option linter.unusedSimpArgs false
namespace Go.Proofs.YtobmjcehgpmfgaaGreat
open Go.RowKit
/-- What one's own block is, as a list. -/
abbrev ob (v : Value) : List Nat := v.ownBlock.toList
theorem own_fr {w w' : World} {base e size n : Nat} {v : Value} {xs : List Value} {S : List Nat} (h : w.ownsRow base e size v n xs) (k : Fr S w w') (hS : ∀ x ∈ S, x < base) : w'.ownsRow base e size v n xs := by
  refine ⟨h.1, ?_⟩
  rcases h.2 with h2 | ⟨g, cap, cur, rfl, hb, hg, hr⟩
  · exact .inl h2
  · exact .inr ⟨g, cap, cur, rfl, hb, (k.block g (lt_of_block hg) (fun m => by have := hS g m; omega)).trans hg, hr⟩
theorem ob_ge {w : World} {base e size n : Nat} {v : Value} {xs : List Value} (h : w.ownsRow base e size v n xs) : ∀ k ∈ ob v, base ≤ k ∧ k < w.heap.size := by
  intro k hk
  have hk' : v.ownBlock = some k := by simpa [ob] using hk
  rcases h.2 with ⟨rfl, _⟩ | ⟨g, cap, cur, rfl, hb, hg, _⟩
  · cases hk'
  · have : k = g := by simpa [Value.ownBlock] using hk'.symm
    subst this
    exact ⟨hb, lt_of_block hg⟩
theorem fr_grown {w w' : World} {v : Value} (h : w.grownBy w' v.ownBlock) : Fr (ob v) w w' :=
  (Fr.refl (ob v) w).grown h (fun k hk => .inl (by simp [ob, hk]))
end Go.Proofs.YtobmjcehgpmfgaaGreat
set_option linter.unusedVariables false
set_option linter.unusedSimpArgs false
namespace Go.Proofs.YtobmjcehgpmfgaaGreat
open Go.RowKit
attribute [local go_sem] GW.cell GW.frozen In.eq_true In.le_true In.ne In.ne' In.ne_add In.ne_add' In.lt_add Upto.le_true Upto.le_add Upto.lt_add
/-- An edge as it lies: its row's slice, and the edge. -/
abbrev Ve := Value × Ed
def ec1 (p : Ve) : List Value := [p.1, .int .i64 p.2.2.1, .int .i64 p.2.2.2]
def ec (L : List Ve) : List Value := L.flatMap ec1
theorem ec_length (L : List Ve) : (ec L).length = L.length * 3 := by
  induction L with
  | nil => rfl
  | cons p r ih => simp only [ec, ec1, List.flatMap_cons, List.length_append, List.length_cons, List.length_nil] at ih ⊢; omega
theorem ec_append (L M : List Ve) : ec (L ++ M) = ec L ++ ec M := by simp [ec]
theorem ec_cons (p : Ve) (L : List Ve) : ec (p :: L) = ec1 p ++ ec L := by simp [ec]
theorem ec_drop : ∀ (L : List Ve) (n : Nat), (ec L).drop (n * 3) = ec (L.drop n)
  | [], n => by simp [ec]
  | p :: L, 0 => by simp
  | p :: L, n + 1 => by
    rw [ec_cons, show (n + 1) * 3 = (ec1 p).length + n * 3 by simp [ec1]; omega, List.drop_append, List.drop_of_length_le (by omega), List.nil_append, Nat.add_sub_cancel_left, ec_drop L n, List.drop_succ_cons]
theorem ec_one {L : List Ve} (h : ∀ p ∈ L, p.1.oneCell' = true) : ∀ u ∈ ec L, u.oneCell' = true := by
  intro u hu
  simp only [ec, List.mem_flatMap, ec1] at hu
  obtain ⟨p, hp, hu⟩ := hu
  simp at hu
  rcases hu with rfl | rfl | rfl
  · exact h p hp
  · rfl
  · rfl
theorem ec_get : ∀ (L : List Ve) (i : Nat) (p : Ve), L[i]? = some p → ∀ j v, (ec1 p)[j]? = some v → (ec L)[i * 3 + j]? = some v
  | q :: r, 0, p, h, j, v, hv => by
    simp at h; subst h
    have hj : j < (ec1 q).length := (List.getElem?_eq_some_iff.1 hv).1
    rw [ec_cons, List.getElem?_append_left (by omega), show 0 * 3 + j = j by omega]; exact hv
  | q :: r, i + 1, p, h, j, v, hv => by
    have := ec_get r i p (by simpa using h) j v hv
    rw [ec_cons, show (i + 1) * 3 + j = (ec1 q).length + (i * 3 + j) by simp [ec1]; omega, List.getElem?_append_right (by omega), Nat.add_sub_cancel_left]
    exact this
abbrev eds (L : List Ve) : List Ed := L.map Prod.snd
/-- Edges, where they lie; neither they nor their rows lie in a block of S. -/
def Ew (w : World) (S : List Nat) (v : Value) (L : List Ve) : Prop := Sl w S 3 v L.length (ec L) ∧ ∀ p ∈ L, Rw w S p.1 p.2.1
section
variable {w w' : World} {S S' : List Nat} {v : Value} {L : List Ve}
theorem Ew.ext (h : Ew w S v L) (k : Ext w w') : Ew w' S v L := ⟨Sl.ext h.1 k, fun p hp => Sl.ext (h.2 p hp) k⟩
theorem Ew.fr (h : Ew w S v L) (k : Fr S' w w') (hs : ∀ b, b ∈ S' → b ∈ S) : Ew w' S v L := ⟨Sl.fr h.1 k hs, fun p hp => Sl.fr (h.2 p hp) k hs⟩
theorem Ew.less (h : Ew w S v L) (hs : ∀ b, b ∈ S' → b ∈ S) : Ew w S' v L := ⟨Sl.less h.1 hs, fun p hp => Sl.less (h.2 p hp) hs⟩
theorem row_one {r : List Vl} {u : Value} (h : Rw w S u r) : u.oneCell' = true := by obtain ⟨A, cap, rfl, _⟩ := h; rfl
theorem Ew.one (h : Ew w S v L) : ∀ u ∈ ec L, u.oneCell' = true := ec_one fun p hp => row_one (h.2 p hp)
theorem ew_form (h : Ew w S v L) : ∃ A cap, v = .slice A L.length cap ∧ L.length ≤ cap ∧ cap ≤ maxLen ∧
    ∀ (i : Nat) (p : Ve), L[i]? = some p → ∃ b o, A = some ⟨b, o, none⟩ ∧ b ∉ S ∧ b < w.heap.size ∧ w.cell? ⟨b, o + i * 3, none⟩ = some p.1 ∧ w.cell? ⟨b, o + i * 3 + 1, none⟩ = some (.int .i64 p.2.2.1) ∧ w.cell? ⟨b, o + i * 3 + 1 + 1, none⟩ = some (.int .i64 p.2.2.2) := by
  obtain ⟨A, cap, rfl, h1, h2, h3, h4⟩ := h.1
  refine ⟨A, cap, rfl, h1, h2, fun i p hp => ?_⟩
  have hg := ec_get L i p hp
  rcases h4 with h4 | ⟨b, o, rfl, hb, hc⟩
  · have := hg 0 _ rfl; rw [h4] at this; cases this
  · have c0 := hc _ _ (hg 0 _ rfl)
    have c1 := hc _ _ (hg 1 _ rfl)
    have c2 := hc _ _ (hg 2 _ rfl)
    exact ⟨b, o, rfl, hb, block_lt_of_cell c0, c0, c1, c2⟩
end
/-- An edge, by value. -/
abbrev em (v : Value) (x : Jp) : Value := .agg #[v, .int .i64 x.1, .int .i64 x.2]
theorem rw_val {w : World} {S : List Nat} {v : Value} {l : List Vl} (h : Rw w S v l) : ∃ A cap, v = .slice A l.length cap := by obtain ⟨A, cap, e, _⟩ := h; exact ⟨A, cap, e⟩
set_option maxHeartbeats 1000000 in
theorem hasNoRow_c (q : List Vl) (j : Jp) (v : Value) (w : World) (h : Rw w [] v q) : Calls Tryz.prog 136 #[em v j] w fun e w' => e = .returned (.bool (!mayR q)) ∧ Ext w w' := by
  obtain ⟨jp, jn⟩ := j
  have h1 := hide (fun w' (hX : Ext w w') => rowMay_c q v w' (Sl.ext h hX))
  obtain ⟨A, cap, rfl⟩ := rw_val h
  have hX0 := hide ((Ext.refl w).alloc (.cells #[.slice A q.length cap, .int .i64 jp, .int .i64 jn] 115))
  generalize mayR q = m at *
  clear h
  go_enter Tryz.func136, Tryz.ntmps136
  go_wp2_with (go_at_call 105; (with_reducible refine seq_gw (h1.out _ hX0.out) ?_); intro g)
  go_returns
  exact ⟨rfl, hX0.out.trans g.grown⟩
set_option maxHeartbeats 1000000 in
theorem byRow_c (q : List Vl) (j : Jp) (v : Value) (r : List Vl) (k : Jp) (u : Value) (w : World) (hq : Rw w [] v q) (hr : Rw w [] u r) : Calls Tryz.prog 138 #[em v j, em u k] w fun e w' => e = .returned (.int .i64 (cmpR q r)) ∧ Ext w w' := by
  obtain ⟨jp, jn⟩ := j
  obtain ⟨kp, kn⟩ := k
  have h1 := hide (fun w' (hX : Ext w w') => rowCompare_c (Sl.ext hq hX) (Sl.ext hr hX))
  obtain ⟨A, cap, rfl⟩ := rw_val hq
  obtain ⟨B, cap2, rfl⟩ := rw_val hr
  have hX0 := hide (((Ext.refl w).alloc (.cells #[.slice A q.length cap, .int .i64 jp, .int .i64 jn] 115)).alloc (.cells #[.slice B r.length cap2, .int .i64 kp, .int .i64 kn] 115))
  generalize cmpR q r = m at *
  clear hq hr
  go_enter Tryz.func138, Tryz.ntmps138
  go_wp2_with (go_at_call 157; (with_reducible refine seq_gw (h1.out _ hX0.out) ?_); intro g)
  go_returns
  exact ⟨rfl, hX0.out.trans g.grown⟩
end Go.Proofs.YtobmjcehgpmfgaaGreat
set_option linter.unusedVariables false
set_option linter.unusedSimpArgs false
namespace Go.Proofs.YtobmjcehgpmfgaaGreat
open Go.Maps (Keyed)
/-- Any element reads as itself. -/
def anyE (v : Value) : Option (DataW Value × List MemPlace) := some (.held v, [])
def entE {α : Type} (f : α → Lit × Value) (q : α) : Lit × DataW Value := ((f q).1, .held (f q).2)
/-- Block b is a map with the entries M. -/
def Mv {α : Type} (w : World) (P : Program) (k : TypeId) (f : α → Lit × Value) (b n : Nat) (M : List α) : Prop := ∃ es, w.ownsMap P k anyE b n (.map es) ∧ es.Perm (M.map (entE f))
def getM {α : Type} (f : α → Lit × Value) (M : List α) (kl : Lit) : Option α := M.find? fun q => (f q).1.sameKey kl
def delM {α : Type} (f : α → Lit × Value) (M : List α) (kl : Lit) : List α := M.filter fun q => !(f q).1.sameKey kl
def putM {α : Type} (f : α → Lit × Value) (M : List α) (x : α) : List α := x :: delM f M (f x).1
section
variable {α : Type} {f : α → Lit × Value} {P : Program} {k : TypeId} {w w' : World} {b n : Nat} {M : List α}
theorem Mv.made {α : Type} (f : α → Lit × Value) (w : World) (P : Program) (k : TypeId) : Mv (w.alloc (.map #[] 0)) P k f w.heap.size 0 [] := ⟨[], World.ownsMap_made w P k anyE, List.Perm.refl _⟩
theorem Mv.lt (h : Mv w P k f b n M) : b < w.heap.size := by obtain ⟨es, h, _⟩ := h; exact h.lt
theorem Mv.kept {row : Option Nat} (h : Mv w P k f b n M) (hg : w.grownBy w' row) (hne : some b ≠ row) : Mv w' P k f b n M := by obtain ⟨es, h, p⟩ := h; exact ⟨es, h.kept hg hne, p⟩
theorem Mv.alloc (h : Mv w P k f b n M) (o : Obj) : Mv (w.alloc o) P k f b n M := by obtain ⟨es, h, p⟩ := h; exact ⟨es, h.alloc o, p⟩
theorem Mv.perm (h : Mv w P k f b n M) {M' : List α} (hp : M.Perm M') : Mv w P k f b n M' := by obtain ⟨es, h, p⟩ := h; exact ⟨es, h, p.trans (hp.map _)⟩
/-- Keys are apart. -/
theorem Mv.apart (h : Mv w P k f b n M) (K : Keyed P k) : M.Pairwise (fun p q => (f p).1 ≠ (f q).1) ∧ ∀ q ∈ M, WideAt.IsKeyLit (f q).1 := by
  obtain ⟨es, h, p⟩ := h
  obtain ⟨es', e, h1, h2⟩ := h.entries K
  injection e with e
  subst e
  have h3 : (M.map (entE f)).Pairwise (fun p q => p.1 ≠ q.1) := (p.pairwise_iff (fun {a b} hab => Ne.symm hab)).1 h1
  rw [List.pairwise_map] at h3
  exact ⟨h3, fun q hq => h2 (entE f q) (p.mem_iff.2 (List.mem_map.2 ⟨q, hq, rfl⟩))⟩
theorem find_perm {kl : Lit} {l l' : List (Lit × DataW Value)} (p : l.Perm l') (hd : l.Pairwise (fun p q => p.1 ≠ q.1)) : l.find? (fun p => p.1.sameKey kl) = l'.find? (fun p => p.1.sameKey kl) := by
  induction p with
  | nil => rfl
  | cons x _ ih =>
    rw [List.find?_cons, List.find?_cons, ih (List.pairwise_cons.1 hd).2]
  | swap x y l =>
    have hxy : y.1 ≠ x.1 := (List.pairwise_cons.1 hd).1 x (by simp)
    rw [List.find?_cons, List.find?_cons, List.find?_cons, List.find?_cons]
    cases h1 : y.1.sameKey kl <;> cases h2 : x.1.sameKey kl <;> simp_all
    exact absurd ((WideAt.sameKey_eq h1).trans (WideAt.sameKey_eq h2).symm) hxy
  | trans p1 _ ih1 ih2 =>
    rw [ih1 hd]
    exact ih2 ((p1.pairwise_iff (fun {a b} hab => Ne.symm hab)).1 hd)
theorem any_permM {α : Type} {l m : List α} (p : l.Perm m) (f : α → Bool) : l.any f = m.any f := by
  rw [Bool.eq_iff_iff, List.any_eq_true, List.any_eq_true]
  exact ⟨fun ⟨x, hx, e⟩ => ⟨x, p.mem_iff.1 hx, e⟩, fun ⟨x, hx, e⟩ => ⟨x, p.mem_iff.2 hx, e⟩⟩
theorem insert_perm (x : Lit × DataW Value) : ∀ l : List (Lit × DataW Value), (DataW.insert x l).Perm (x :: l)
  | [] => List.Perm.refl _
  | y :: r => by
    unfold DataW.insert
    split
    · exact List.Perm.refl _
    · exact ((insert_perm x r).cons y).trans (List.Perm.swap x y r)
theorem find_ents (f : α → Lit × Value) (kl : Lit) : ∀ M : List α, (M.map (entE f)).find? (fun p => p.1.sameKey kl) = (M.find? fun q => (f q).1.sameKey kl).map (entE f)
  | [] => rfl
  | q :: M => by
    rw [List.map_cons, List.find?_cons, List.find?_cons, find_ents f kl M]
    show (match (f q).1.sameKey kl with | true => _ | false => _) = _
    cases (f q).1.sameKey kl <;> rfl
theorem filter_ents (f : α → Lit × Value) (kl : Lit) (M : List α) : (M.map (entE f)).filter (fun p => !p.1.sameKey kl) = (delM f M kl).map (entE f) := by
  unfold delM
  rw [List.filter_map]; rfl
theorem Mv.at (h : Mv w P k f b n M) (K : Keyed P k) (kl : Lit) (z : Value) : ∃ es, w.ownsMap P k anyE b n (.map es) ∧ (DataW.map es).atKey kl (.held z) = .held (((getM f M kl).map fun q => (f q).2).getD z) := by
  obtain ⟨es, h, p⟩ := h
  refine ⟨es, h, ?_⟩
  obtain ⟨es', e, h1, -⟩ := h.entries K
  injection e with e
  subst e
  unfold DataW.atKey getM
  simp only
  rw [find_perm p h1, find_ents]
  cases M.find? fun q => (f q).1.sameKey kl <;> rfl
/-- 'm[k]'. -/
theorem Mv.lookup {t e : TypeId} (h : Mv w P k f b n M) (K : Keyed P k) (ht : P.underlying t = some (.map k e)) {z : Value} (hz : (zeroValue e).run P w = .ok z w) {key : Value} {kl : Lit} (hkey : keyOf P k key = some kl) : (Instr.lookup t (.map (some b)) key false).run P w = .ok (((getM f M kl).map fun q => (f q).2).getD z) w := by
  obtain ⟨es, h1, h2⟩ := h.at K kl z
  obtain ⟨v, ps, hrun, hv⟩ := h1.lookup K ht hz (zd := .held z) (zp := []) rfl hkey
  rw [h2] at hv
  unfold anyE at hv
  simp only [Option.some.injEq, Prod.mk.injEq, DataW.held.injEq] at hv
  rw [hrun, hv.1]
/-- 'm[k] = v'. -/
theorem Mv.store {t e : TypeId} (h : Mv w P k f b n M) (K : Keyed P k) (ht : P.underlying t = some (.map k e)) (hn : n < maxLen) {key : Value} (x : α) (hkey : keyOf P k key = some (f x).1) : ∃ w', (Instr.mapUpdate t (.map (some b)) key (f x).2).run P w = .ok () w' ∧ Mv w' P k f b (n + 1) (putM f M x) ∧ w.grownBy w' (some b) := by
  obtain ⟨es, h, p⟩ := h
  obtain ⟨w', hrun, h1, h2⟩ := h.store K ht hn hkey (val := (f x).2) (d := .held (f x).2) (ps := []) rfl
  refine ⟨w', hrun, ⟨_, h1, ?_⟩, h2.grown⟩
  refine (insert_perm _ _).trans ?_
  unfold putM
  rw [List.map_cons, ← filter_ents]
  exact (p.filter _).cons _
/-- 'delete(m, k)'. -/
theorem Mv.drop {t e : TypeId} (h : Mv w P k f b n M) (K : Keyed P k) (ht : P.underlying t = some (.map k e)) {key : Value} {kl : Lit} (hkey : keyOf P k key = some kl) (ty : TypeId) : ∃ w', (Builtin.delete_ #[t, k] ty #[.map (some b), key]).run P w = .ok (.tuple #[]) w' ∧ Mv w' P k f b n (delM f M kl) ∧ w.grownBy w' (some b) := by
  obtain ⟨es, h, p⟩ := h
  obtain ⟨w', hrun, h1, h2⟩ := h.drop K ht hkey ty
  refine ⟨w', hrun, ⟨_, h1, ?_⟩, h2.grown⟩
  rw [← filter_ents]
  exact p.filter _
/-- 'range m' under way: what is still to come. -/
def Rgv {α : Type} (w : World) (P : Program) (k : TypeId) (f : α → Lit × Value) (b r n : Nat) (M rest : List α) : Prop :=
  ∃ es left cnt, w.ranges P k anyE b r n (.map es) left cnt ∧ es.Perm (M.map (entE f)) ∧ (∀ kl, left kl = rest.any fun q => (f q).1.sameKey kl) ∧ rest.Sublist M
theorem Rgv.owns {r : Nat} {rest : List α} (h : Rgv w P k f b r n M rest) : Mv w P k f b n M := by
  obtain ⟨es, left, cnt, h1, h2, -⟩ := h
  exact ⟨es, h1.owns, h2⟩
theorem Rgv.kept {r : Nat} {rest : List α} {row : Option Nat} (h : Rgv w P k f b r n M rest) (hg : w.grownBy w' row) (hb : some b ≠ row) (hr : some r ≠ row) : Rgv w' P k f b r n M rest := by
  obtain ⟨es, left, cnt, h1, h2⟩ := h
  exact ⟨es, left, cnt, h1.kept hg hb hr, h2⟩
theorem Mv.range {t e : TypeId} (h : Mv w P k f b n M) (K : Keyed P k) (ht : P.underlying t = some (.map k e)) : ∃ w', (Instr.range t (.map (some b))).run P w = .ok (.pointer (some ⟨w.heap.size, 0, none⟩)) w' ∧ Rgv w' P k f b w.heap.size n M M ∧ w.grownBy w' none ∧ w'.heap.size = w.heap.size + 1 := by
  obtain ⟨es, h, p⟩ := h
  obtain ⟨w', hrun, h1, h2, h3⟩ := h.range K ht
  refine ⟨w', hrun, ⟨es, _, _, h1, p, fun kl => ?_, List.Sublist.refl _⟩, h2, h3⟩
  rw [Go.Maps.has_eq, any_permM p, List.any_map]
  rfl
theorem Rgv.next {r : Nat} {rest : List α} (h : Rgv w P k f b r n M rest) (K : Keyed P k) (ty : TypeId) :
    (rest = [] ∧ (Instr.next (.pointer (some ⟨r, 0, none⟩)) false ty).run P w = .ok (.tuple #[.bool false]) w) ∨
    ∃ key q rest' w', keyOf P k key = some (f q).1 ∧ q ∈ M ∧ rest.Perm (q :: rest') ∧ (Instr.next (.pointer (some ⟨r, 0, none⟩)) false ty).run P w = .ok (.tuple #[.bool true, key, (f q).2]) w' ∧ Rgv w' P k f b r n M rest' ∧ w.grownBy w' (some r) ∧ w'.heap.size = w.heap.size ∧ (Instr.entry (.pointer (some ⟨r, 0, none⟩))).run P w' = .ok (.tuple #[key, (f q).2]) w' := by
  have hap := h.owns.apart K
  have hMv := h.owns
  obtain ⟨es, left, cnt, h1, p, hl, hs⟩ := h
  have hself : ∀ q ∈ M, (f q).1.sameKey (f q).1 = true := fun q hq => WideAt.sameKey_self (hap.2 q hq)
  rcases h1.next K ty with ⟨-, h0, hrun⟩ | ⟨key, v, kl, y, w', cnt', hkey, hlk, hRv, hat, hrun, hr, -, hg, hsz, hen⟩
  · left
    refine ⟨List.eq_nil_iff_forall_not_mem.2 fun q hq => ?_, hrun⟩
    have := hl (f q).1
    rw [h0] at this
    have h2 := List.any_eq_false.1 this.symm q hq
    exact h2 (hself q (hs.subset hq))
  · right
    rw [hl] at hlk
    obtain ⟨q, hq, hqk⟩ := List.any_eq_true.1 hlk
    have e1 := WideAt.sameKey_eq hqk
    subst e1
    have hqM := hs.subset hq
    have hv : v = (f q).2 := by
      unfold anyE at hRv
      simp only [Option.some.injEq] at hRv
      obtain ⟨es2, h3, h4⟩ := hMv.at K (f q).1 v
      have h5 := hat (.held v)
      obtain ⟨es', e, h6, -⟩ := h1.owns.entries K
      injection e with e
      subst e
      have h7 : (DataW.map es).atKey (f q).1 (.held v) = .held (f q).2 := by
        unfold DataW.atKey
        simp only
        rw [find_perm p h6, find_ents]
        have h8 : M.find? (fun x => (f x).1.sameKey (f q).1) = some q := by
          rw [List.find?_eq_some_iff_append]
          refine ⟨hqk, ?_⟩
          obtain ⟨l1, l2, e2⟩ := List.append_of_mem hqM
          refine ⟨l1, l2, e2, fun x hx => ?_⟩
          cases hx2 : (f x).1.sameKey (f q).1
          · rfl
          · exfalso
            have h9 := hap.1
            rw [e2, List.pairwise_append] at h9
            exact h9.2.2 x hx q (by simp) (WideAt.sameKey_eq hx2)
        rw [h8]; rfl
      rw [h7, ← hRv] at h5
      injection h5 with h5
      exact h5.symm
    subst hv
    refine ⟨key, q, rest.filter (fun x => !(f x).1.sameKey (f q).1), w', hkey, hqM, ?_, hrun, ⟨es, _, _, hr, p, fun kl => ?_, (List.filter_sublist ..).trans hs⟩, hg, hsz, hen⟩
    · obtain ⟨l1, l2, e2⟩ := List.append_of_mem hq
      have h9 : rest.Pairwise (fun p q => (f p).1 ≠ (f q).1) := hap.1.sublist hs
      rw [e2, List.pairwise_append, List.pairwise_cons] at h9
      have f1 : ∀ x ∈ l1, (!(f x).1.sameKey (f q).1) = true := fun x hx => by
        cases hx2 : (f x).1.sameKey (f q).1
        · rfl
        · exact absurd (WideAt.sameKey_eq hx2) (h9.2.2 x hx q (by simp))
      have f2 : ∀ x ∈ l2, (!(f x).1.sameKey (f q).1) = true := fun x hx => by
        cases hx2 : (f x).1.sameKey (f q).1
        · rfl
        · exact absurd (WideAt.sameKey_eq hx2).symm (h9.2.1.1 x hx)
      rw [e2, List.filter_append, List.filter_cons, hqk, if_neg (by decide), List.filter_eq_self.2 f1, List.filter_eq_self.2 f2]
      exact List.perm_middle
    · show (left kl && !kl.sameKey (f q).1) = _
      rw [hl, List.any_filter]
      cases hk : kl.sameKey (f q).1
      · rw [Bool.not_false, Bool.and_true]
        refine List.any_congr rfl fun x => ?_
        cases hx : (f x).1.sameKey kl
        · simp
        · rw [WideAt.sameKey_eq hx, hk]; rfl
      · rw [Bool.not_true, Bool.and_false]
        symm
        refine List.any_eq_false.2 fun x hx h2 => ?_
        rw [Bool.and_eq_true] at h2
        rw [WideAt.sameKey_eq h2.2, hk] at h2
        exact absurd h2.1 (by decide)
end
section
variable {α : Type} {f : α → Lit × Value} {P : Program} {k : TypeId} {w : World} {b n : Nat} {M : List α} {ops : Array Oper} {rest : List Oper} {o : Oper} {a : Act} {Q : Exit → Act → World → Prop}
theorem wpl_range {t e : TypeId} (hg : o.guard = none) (m : Operand) (hop : o.op = Op.range t m) (hm : a.eval m = .map (some b)) (K : Keyed P k) (ht : P.underlying t = some (.map k e)) (h : Mv w P k f b n M)
    (hK : ∀ w', Rgv w' P k f b w.heap.size n M M → w.grownBy w' none → w'.heap.size = w.heap.size + 1 → wpList P ops Q rest (a.put o.dst (.pointer (some ⟨w.heap.size, 0, none⟩))) w') : wpList P ops Q (o :: rest) a w := by
  refine wpList_plain hg fun K' hK' => ?_
  obtain ⟨w', hrun, r1, r2, r3⟩ := h.range K ht
  unfold Oper.wp
  simp [execOp, hop, hm, hrun, Result.andThen]
  exact hK' _ _ (hK w' r1 r2 r3)
theorem wpl_next {r : Nat} {left : List α} (hg : o.guard = none) (it : Operand) (hop : o.op = Op.next it false) (hit : a.eval it = .pointer (some ⟨r, 0, none⟩)) (K : Keyed P k) (h : Rgv w P k f b r n M left)
    (hDone : left = [] → wpList P ops Q rest (a.put o.dst (.tuple #[.bool false])) w)
    (hMore : ∀ key q left' w', keyOf P k key = some (f q).1 → q ∈ M → left.Perm (q :: left') → Rgv w' P k f b r n M left' → w.grownBy w' (some r) → w'.heap.size = w.heap.size → (Instr.entry (.pointer (some ⟨r, 0, none⟩))).run P w' = .ok (.tuple #[key, (f q).2]) w' → wpList P ops Q rest (a.put o.dst (.tuple #[.bool true, key, (f q).2])) w') : wpList P ops Q (o :: rest) a w := by
  refine wpList_plain hg fun K' hK' => ?_
  unfold Oper.wp
  rcases h.next K o.type with ⟨h0, hrun⟩ | ⟨key, q, left', w', hkey, hq, hp, hrun, hr, hgr, hsz, hen⟩
  · simp [execOp, hop, hit, hrun, Result.andThen]
    exact hK' _ _ (hDone h0)
  · simp [execOp, hop, hit, hrun, Result.andThen]
    exact hK' _ _ (hMore key q left' w' hkey hq hp hr hgr hsz hen)
theorem wpl_mstore {t e : TypeId} (hg : o.guard = none) (m x v : Operand) (hop : o.op = Op.mapUpdate t m x v) {key : Value} (y : α) (hm : a.eval m = .map (some b)) (hx : a.eval x = key) (hv : a.eval v = (f y).2) (K : Keyed P k) (ht : P.underlying t = some (.map k e)) (hn : n < maxLen) (h : Mv w P k f b n M) (hkey : keyOf P k key = some (f y).1)
    (hK : ∀ w', Mv w' P k f b (n + 1) (putM f M y) → w.grownBy w' (some b) → wpList P ops Q rest (a.put o.dst undef) w') : wpList P ops Q (o :: rest) a w := by
  refine wpList_plain hg fun K' hK' => ?_
  obtain ⟨w', hrun, r1, r2⟩ := h.store K ht hn y hkey
  unfold Oper.wp
  simp [execOp, hop, hm, hx, hv, hrun, Result.andThen]
  exact hK' _ _ (hK w' r1 r2)
theorem wpl_mdel {t e : TypeId} (hg : o.guard = none) (m x : Operand) (hop : o.op = Op.call { callee := Callee.builtin Builtin.delete, args := #[m, x], argTypes := #[t, k] }) {key : Value} {kl : Lit} (hm : a.eval m = .map (some b)) (hx : a.eval x = key) (K : Keyed P k) (ht : P.underlying t = some (.map k e)) (h : Mv w P k f b n M) (hkey : keyOf P k key = some kl)
    (hK : ∀ w', Mv w' P k f b n (delM f M kl) → w.grownBy w' (some b) → wpList P ops Q rest (a.put o.dst (.tuple #[])) w') : wpList P ops Q (o :: rest) a w := by
  refine wpList_plain hg fun K' hK' => ?_
  obtain ⟨w', hrun, r1, r2⟩ := h.drop K ht hkey o.type
  unfold Oper.wp
  simp [execOp, hop, resolve, invoke, builtin, hm, hx, hrun, Result.andThen]
  exact hK' _ _ (hK w' r1 r2)
end
end Go.Proofs.YtobmjcehgpmfgaaGreat
