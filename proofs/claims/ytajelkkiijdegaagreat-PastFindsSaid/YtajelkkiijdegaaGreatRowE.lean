/-
  A helper of ours: no claim of its own. Layer 6 (row): rows that are made of rows, on both sides.
-/
import Derived.Test.YtajelkkiijdegaaGreatMapV
import Derived.Test.YtajelkkiijdegaaGreatMem
import Derived.Test.YtajelkkiijdegaaGreatRowA
import Derived.Test.YtajelkkiijdegaaGreatSchE
import Derived.Deep.AppendSrc
import Derived.Lib.LazyBuf
import Derived.WalkLawsBesides
import Derived.Test.YtajelkkiijdegaaGreatArgV
import Derived.Test.YtajelkkiijdegaaGreatRows
import Derived.Handy
import Derived.WalkSpells
import Derived.WalkSmall
import Derived.Deep.LoopGhost
import Derived.BigQuiet
import Derived.Lib.AppendZerosOnto
set_option linter.unusedVariables false
set_option linter.unusedSimpArgs false
namespace Go.Proofs.YtajelkkiijdegaaGreat
open Go.Maps (Keyed)
section
variable {α : Type} {f : α → Lit × Value} {P : Program} {k : TypeId} {w w' : World} {b n : Nat} {M : List α}
/-- 'v, ok := m[k]'. -/
theorem Mv.lookOk {t e : TypeId} (h : Mv w P k f b n M) (K : Keyed P k) (ht : P.underlying t = some (.map k e)) {z : Value} (hz : (zeroValue e).run P w = .ok z w) {key : Value} {kl : Lit} (hkey : keyOf P k key = some kl) : (Instr.lookup t (.map (some b)) key true).run P w = .ok (.tuple #[((getM f M kl).map fun q => (f q).2).getD z, .bool (getM f M kl).isSome]) w := by
  have hp := h
  obtain ⟨es0, h0, p0⟩ := hp
  obtain ⟨es, h1, h2⟩ := h.at K kl z
  obtain ⟨v, ps, hrun, hv⟩ := h1.look_ok K ht hz (zd := .held z) (zp := []) rfl hkey
  rw [h2] at hv
  unfold anyE at hv
  simp only [Option.some.injEq, Prod.mk.injEq, DataW.held.injEq] at hv
  obtain ⟨v0, ps0, hrun0, hv0⟩ := h0.look_ok K ht hz (zd := .held z) (zp := []) rfl hkey
  have e : Go.Maps.has (DataW.map es0) kl = (getM f M kl).isSome := by
    show es0.any (fun p => p.1.sameKey kl) = _
    rw [any_permM p0, List.any_map, getM, Bool.eq_iff_iff, List.any_eq_true, List.find?_isSome]
    exact Iff.rfl
  rw [hrun] at hrun0
  simp only [Result.ok.injEq, Value.tuple.injEq, and_true] at hrun0
  have e2 : Go.Maps.has (DataW.map es) kl = Go.Maps.has (DataW.map es0) kl := by
    have := congrArg (fun a : Array Value => a[1]?) hrun0
    simpa using this
  rw [hrun, hv.1, e2, e]
end
end Go.Proofs.YtajelkkiijdegaaGreat
set_option linter.unusedVariables false
set_option linter.unusedSimpArgs false
namespace Go.Proofs.YtajelkkiijdegaaGreat
open Go.RowKit
/-- A jump: where, and by how much. -/
abbrev Jp := Int × Int
/-- The sum of the jumps that are not above t. -/
def jv : List Jp → Int → Int
  | [], _ => 0
  | j :: r, t => (if j.1 ≤ t then j.2 else 0) + jv r t
/-- The sum of all. -/
def js : List Jp → Int
  | [] => 0
  | j :: r => j.2 + js r
/-- Rising. -/
abbrev Asc (f : List Jp) : Prop := f.Pairwise fun a b => a.1 < b.1
/-- In the one form. -/
def Canon (f : List Jp) : Prop := Asc f ∧ ∀ j ∈ f, j.2 ≠ 0
/-- The jumps between values at places. -/
def tell (v : Int → Int) : List Int → Int → List Jp
  | [], _ => []
  | p :: r, was => if v p = was then tell v r (v p) else (p, v p - was) :: tell v r (v p)
/-- A place more, where it belongs. -/
def ins (l : List Int) (t : Int) : List Int := if t ∈ l then l else l.filter (fun x => decide (x < t)) ++ t :: l.filter (fun x => decide (t < x))
end Go.Proofs.YtajelkkiijdegaaGreat
set_option linter.unusedVariables false
set_option linter.unusedSimpArgs false
namespace Go.Proofs.YtajelkkiijdegaaGreat
open Go.RowKit
/-! ### Norm -/
/-! ### Two at once -/
def nxt : List Jp → Int
  | [] => 1125899906842624
  | j :: _ => j.1
/-- Two functions, gone through up to a place. -/
structure Comb (op : Int → Int → Int) (f1 f2 g1 g2 made : List Jp) : Prop where
  canon : Canon made
  lt : ∀ j ∈ made, j.1 < min (nxt f2) (nxt g2)
  l1 : ∀ j ∈ f1, j.1 < min (nxt f2) (nxt g2)
  l2 : ∀ j ∈ g1, j.1 < min (nxt f2) (nxt g2)
  sum : js made = op (js f1) (js g1)
  at' : ∀ t, t < min (nxt f2) (nxt g2) → jv made t = op (jv f1 t) (jv g1 t)
  len : made.length ≤ f1.length + g1.length
/-! ### The other sign; parts -/
/-! ### Values -/
end Go.Proofs.YtajelkkiijdegaaGreat
set_option linter.unusedVariables false
set_option linter.unusedSimpArgs false
namespace Go.Proofs.YtajelkkiijdegaaGreat
open Go.RowKit
/-- An edge: its row, where, by how much. -/
abbrev Ed := List Vl × Jp
abbrev Gp := List Vl × List Jp
end Go.Proofs.YtajelkkiijdegaaGreat
set_option linter.unusedVariables false
set_option linter.unusedSimpArgs false
namespace Go.Proofs.YtajelkkiijdegaaGreat
open Go.RowKit
attribute [local go_sem] GW.cell GW.frozen In.eq_true In.le_true In.ne In.ne' In.ne_add In.ne_add' In.lt_add Upto.le_true Upto.le_add Upto.lt_add
section
variable {l m : List Vl} {v u : Value} {w : World}
end
end Go.Proofs.YtajelkkiijdegaaGreat
set_option linter.unusedVariables false
set_option linter.unusedSimpArgs false
namespace Go.Proofs.YtajelkkiijdegaaGreat
open Go.RowKit
attribute [local go_sem] GW.cell GW.frozen In.eq_true In.le_true In.ne In.ne' In.ne_add In.ne_add' In.lt_add Upto.le_true Upto.le_add Upto.lt_add
section
variable {l m : List Vl} {v u : Value} {w : World}
end
end Go.Proofs.YtajelkkiijdegaaGreat
set_option linter.unusedVariables false
set_option linter.unusedSimpArgs false
namespace Go.Proofs.YtajelkkiijdegaaGreat
open Go.RowKit
end Go.Proofs.YtajelkkiijdegaaGreat
set_option linter.unusedVariables false
set_option linter.unusedSimpArgs false
namespace Go.Proofs.YtajelkkiijdegaaGreat
open Go.RowKit
attribute [local go_sem] GW.cell GW.frozen In.eq_true In.le_true In.ne In.ne' In.ne_add In.ne_add' In.lt_add Upto.le_true Upto.le_add Upto.lt_add
end Go.Proofs.YtajelkkiijdegaaGreat
set_option linter.unusedVariables false
set_option linter.unusedSimpArgs false
namespace Go.Proofs.YtajelkkiijdegaaGreat
open Go.RowKit
/-- What one's own block is, as a list. -/
abbrev ob (v : Value) : List Nat := v.ownBlock.toList
theorem own_fr {w w' : World} {base e size n : Nat} {v : Value} {xs : List Value} {S : List Nat} (h : w.ownsRow base e size v n xs) (k : Fr S w w') (hS : ∀ x ∈ S, x < base) : w'.ownsRow base e size v n xs := by
  refine ⟨h.1, ?_⟩
  rcases h.2 with h2 | ⟨g, cap, cur, rfl, hb, hg, hr⟩
  · exact .inl h2
  · exact .inr ⟨g, cap, cur, rfl, hb, (k.block g (lt_of_block hg) (fun m => by have := hS g m; omega)).trans hg, hr⟩
theorem ob_ge {w : World} {base e size n : Nat} {v : Value} {xs : List Value} (h : w.ownsRow base e size v n xs) : ∀ k ∈ ob v, base ≤ k ∧ k < w.heap.size := by
  intro k hk
  have hk' : v.ownBlock = some k := by simpa [ob] using hk
  rcases h.2 with ⟨rfl, _⟩ | ⟨g, cap, cur, rfl, hb, hg, _⟩
  · cases hk'
  · have : k = g := by simpa [Value.ownBlock] using hk'.symm
    subst this
    exact ⟨hb, lt_of_block hg⟩
theorem fr_grown {w w' : World} {v : Value} (h : w.grownBy w' v.ownBlock) : Fr (ob v) w w' :=
  (Fr.refl (ob v) w).grown h (fun k hk => .inl (by simp [ob, hk]))
end Go.Proofs.YtajelkkiijdegaaGreat
set_option linter.unusedVariables false
set_option linter.unusedSimpArgs false
namespace Go.Proofs.YtajelkkiijdegaaGreat
open Go.RowKit
attribute [local go_sem] GW.cell GW.frozen In.eq_true In.le_true In.ne In.ne' In.ne_add In.ne_add' In.lt_add Upto.le_true Upto.le_add Upto.lt_add
/-- An edge as it lies: its row's slice, and the edge. -/
abbrev Ve := Value × Ed
def ec1 (p : Ve) : List Value := [p.1, .int .i64 p.2.2.1, .int .i64 p.2.2.2]
def ec (L : List Ve) : List Value := L.flatMap ec1
section
variable {w w' : World} {S S' : List Nat} {v : Value} {L : List Ve}
end
theorem rw_val {w : World} {S : List Nat} {v : Value} {l : List Vl} (h : Rw w S v l) : ∃ A cap, v = .slice A l.length cap := by obtain ⟨A, cap, e, _⟩ := h; exact ⟨A, cap, e⟩
end Go.Proofs.YtajelkkiijdegaaGreat
set_option linter.unusedVariables false
set_option linter.unusedSimpArgs false
namespace Go.Proofs.YtajelkkiijdegaaGreat
open Go.RowKit
attribute [local go_sem] GW.cell GW.frozen In.eq_true In.le_true In.ne In.ne' In.ne_add In.ne_add' In.lt_add Upto.le_true Upto.le_add Upto.lt_add
theorem tVal : ElemT Tryz.prog 35 83 (.agg #[.int .i64 0, .int .i64 0, .string ⟨#[]⟩]) 3 32 := ElemT.mk' Tryz.underlying35 (by kernel_rfl) rfl (by omega)
theorem own_appR {w : World} {B : Nat} {v : Value} {l m : List Vl} (h : w.ownsRow B 83 3 v (l.length + m.length) (rc l ++ rc m)) : OwnR w B v (l ++ m) := by
  unfold OwnR; rw [List.length_append, rc_append]; exact h
set_option maxHeartbeats 1000000 in
set_option maxRecDepth 100000 in
theorem rowClone_c (l : List Vl) (v : Value) (w : World) (h : Rw w [] v l) (hz : l.length * 32 ≤ 140737488351232) : Calls Tryz.prog 103 #[v] w fun e w' => ∃ v', e = .returned v' ∧ OwnR w' w.heap.size v' l ∧ Ext w w' := by
  obtain ⟨A, cap, rfl, hl, hm, -⟩ := rw_form h
  have hq := fun w => Lib.run_eql_slice_nil (P := Tryz.prog) w 35 83 A l.length cap 0 0 Tryz.underlying35
  cases A with
  | none =>
    have hl0 : l = [] := by
      obtain ⟨A', cap', e, _, _, h3, h4⟩ := h
      rcases h4 with h4 | ⟨b, o, rfl, _⟩
      · have := congrArg List.length h4; rw [rc_length] at this; exact List.eq_nil_of_length_eq_zero (by simp at this; omega)
      · cases e
    subst hl0
    clear h hq
    have hq0 := fun w => Lib.run_eql_slice_nil (P := Tryz.prog) w 35 83 none 0 cap 0 0 Tryz.underlying35
    show Calls Tryz.prog 103 #[.slice none 0 cap] w fun e w' => ∃ v', e = .returned v' ∧ OwnR w' w.heap.size v' [] ∧ Ext w w'
    go_enter Tryz.func103, Tryz.ntmps103
    go_wp2_with fail
    go_returns
    exact ⟨_, rfl, World.ownsRow_nil _ _ _ _, Ext.refl w⟩
  | some a =>
    have hlit := hide (World.ownsRow_lit (base := w.heap.size) (e := 83) (size := 3) w #[] 0 (Nat.le_refl _) (by decide) rfl)
    have hv := hide h
    clear h
    go_enter Tryz.func103, Tryz.ntmps103
    go_wp2_with (at_builtin; (refine wpl_app tVal rfl (.tmp 5) (.tmp 6) rfl rfl hlit.out rfl (src_sl Tryz.underlying35 (Sl.ext hv.out ((Ext.refl w).alloc _)) (rc_one _) (by omega)) (by unfold maxLen; omega) (by omega) (by simp) ?_; intro v1 w1 ho1 hg1 _))
    go_returns
    have ho2 : OwnR w1 w.heap.size v1 l := by have := own_appR (l := []) ho1; simpa using this
    exact ⟨_, rfl, ho2, ext_grown ((Ext.refl w).alloc _) hg1 (fun k hk => (hlit.out.lt k hk).1)⟩
set_option maxHeartbeats 1000000 in
theorem rowCopy_c (l : List Vl) (v : Value) (w : World) (h : Rw w [] v l) (hz : l.length * 32 ≤ 140737488351232) : Calls Tryz.prog 53 #[v] w fun e w' => ∃ v', e = .returned v' ∧ OwnR w' w.heap.size v' l ∧ Ext w w' := by
  have hc := hide (rowClone_c l v w h hz)
  clear h
  go_enter Tryz.func53, Tryz.ntmps53
  go_wp2_with (go_at_call 103; refine hc.out.mono ?_; rintro ee w1 ⟨v1, rfl, ho1, hx1⟩)
  go_returns
  exact ⟨_, rfl, ho1, hx1⟩
end Go.Proofs.YtajelkkiijdegaaGreat
