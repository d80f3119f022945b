/-
  A helper of ours: no claim of its own. Layer 10 (edge): a row once, and sums, by the document; what is put together is in form; what a row once amounts to.
-/
import Derived.Test.YtobmjcehgpmfgaaGreatRows
import Derived.Test.YtobmjcehgpmfgaaGreatChecked
import Derived.WalkKit
import Derived.ProofKit
import Derived.JoinedCond
import Derived.Test.YtobmjcehgpmfgaaGreatPakD
import Derived.Test.YtobmjcehgpmfgaaGreatFolZ
import Derived.Test.YtobmjcehgpmfgaaGreatEdgN
import Derived.Test.YtobmjcehgpmfgaaGreatEdgS
import Derived.Test.YtobmjcehgpmfgaaGreatEdgO
import Derived.Test.YtobmjcehgpmfgaaGreatEdgF
import Derived.Test.YtobmjcehgpmfgaaGreatStepR
import Derived.Test.YtobmjcehgpmfgaaGreatFolO
import Derived.Test.YtobmjcehgpmfgaaGreatStepV
import Derived.Test.YtobmjcehgpmfgaaGreatEdgH
import Derived.Test.YtobmjcehgpmfgaaGreatBagH
import Derived.Test.YtobmjcehgpmfgaaGreatEdgGs
namespace Go.Proofs.YtobmjcehgpmfgaaGreat.Facts.foldKeeps
open Go.ChangeShapes Go.WideShapes Go.ChangeAt Go.RowKit
theorem c1 : (Rows.foldKeepsRow.inPlace == Tryz.prog.inPlace 8) = true := by kernel_rfl
theorem c2 : (Rows.foldKeepsRow.unfollowed == Tryz.prog.unfollowed 8) = true := by kernel_rfl
theorem c3 : (Rows.foldKeepsRow.recurses == Tryz.prog.recurses 8) = true := by kernel_rfl
theorem c4 : (Rows.foldKeepsRow.named == Tryz.prog.varsNamed 8) = true := by kernel_rfl
theorem c5 : laidOutB Tryz.prog = true := by kernel_rfl
theorem c6 : mapsRowed Tryz.prog = true := by kernel_rfl
theorem closed : joinedFacts Tryz.prog 8 Tryz.f8 Rows.foldKeepsSpec Rows.foldKeepsRow = true := by
  unfold joinedFacts
  rw [c1, c2, c3, c4, c5, c6]
  kernel_rfl
end Go.Proofs.YtobmjcehgpmfgaaGreat.Facts.foldKeeps
set_option linter.unusedVariables false
set_option linter.unusedSimpArgs false
namespace Go.Proofs.YtobmjcehgpmfgaaGreat
open Go.RowKit
attribute [local go_sem] GW.cell GW.frozen In.eq_true In.le_true In.ne In.ne' In.ne_add In.ne_add' In.lt_add Upto.le_true Upto.le_add Upto.lt_add
set_option maxHeartbeats 1000000 in
theorem isLife_c (a b : Int) (w : World) : Calls Tryz.prog 106 #[.agg #[.int .i64 a, .int .i64 b]] w fun e w' => e = .returned (.bool (lifeB (a, b))) ∧ Ext w w' := by
  have hm := hide (fun w => smay_c a b w)
  have hn := hide (fun w => foldNone_c a b w)
  obtain ⟨R, hR⟩ : ∃ R, R = lifeB (a, b) := ⟨_, rfl⟩
  rw [← hR]
  unfold lifeB spanB at hR
  simp only [Prod.mk.injEq] at hR
  generalize decide (a = 0 ∧ b = 0) = N at *
  cases h : smayB a b
  · rw [h, Bool.false_or] at hR
    rw [h] at hm
    subst hR
    go_enter Tryz.func106, Tryz.ntmps106
    go_wp2_with (first | (go_at_call 172; first | ((with_reducible refine seq_gw' (hm.out _) ?_); intro g) | ((with_reducible refine seq_gw (hm.out _) ?_); intro g)) | (go_at_call 168; first | ((with_reducible refine seq_gw' (hn.out _) ?_); intro g2) | ((with_reducible refine seq_gw (hn.out _) ?_); intro g2)))
    go_returns
    exact ⟨rfl, Gn.ext⟩
  · rw [h, Bool.true_or] at hR
    rw [h] at hm
    subst hR
    clear hn
    go_enter Tryz.func106, Tryz.ntmps106
    go_wp2_with (go_at_call 172; first | ((with_reducible refine seq_gw' (hm.out _) ?_); intro g) | ((with_reducible refine seq_gw (hm.out _) ?_); intro g))
    go_returns
    exact ⟨rfl, Gn.ext⟩
def fdE (q : List Vl) (o n : Spn) : Int := if mayR q then (if lifeB o && lifeB n then 0 else 14) else 2
def fdR (q : List Vl) (o n : Spn) : List Ed := if fdE q o n = 0 then (nmL (chJ o n)).map fun j => (q, j) else []
abbrev L4 (V : Value) (q : List Vl) (o n : Spn) : List Ve := [(V, q, (n.1, 1)), (V, q, (n.2, -1)), (V, q, (o.1, -1)), (V, q, (o.2, 1))]
abbrev o4 (V : Value) (o n : Spn) : Obj := .cells #[V, .int .i64 n.1, .int .i64 1, V, .int .i64 n.2, .int .i64 (-1), V, .int .i64 o.1, .int .i64 (-1), V, .int .i64 o.2, .int .i64 1] 115
theorem ew_four {W : World} {V : Value} {q : List Vl} {o n : Spn} (h : Rw W [] V q) : Ew (W.alloc (o4 V o n)) [] (.slice (some ⟨W.heap.size, 0, none⟩) 4 4) (L4 V q o n) :=
  ⟨Sl.own (World.ownsRow_lit (base := W.heap.size) (e := 115) (size := 3) W #[V, .int .i64 n.1, .int .i64 1, V, .int .i64 n.2, .int .i64 (-1), V, .int .i64 o.1, .int .i64 (-1), V, .int .i64 o.2, .int .i64 1] 4 (Nat.le_refl _) (by decide) rfl) (by simp), fun p hp => by
    simp only [List.mem_cons, List.not_mem_nil, or_false] at hp
    rcases hp with rfl | rfl | rfl | rfl <;> exact Sl.alloc h _⟩
set_option maxHeartbeats 8000000 in
set_option maxRecDepth 100000 in
theorem foldEdges_c (s o1 o2 n1 n2 : Int) (q : List Vl) (u : Value) (w : World) (hu : Rw w [] u q) : Calls Tryz.prog 44 #[.agg #[.int .i64 s, u, .int .i64 o1, .int .i64 o2, .int .i64 n1, .int .i64 n2]] w fun e w' => ∃ v' M, e = .returned (.tuple #[v', .int .i64 (fdE q (o1, o2) (n1, n2))]) ∧ eds M = fdR q (o1, o2) (n1, n2) ∧ OwnEr w' w.heap.size v' M ∧ Ext w w' := by
  have hmay := hide (fun w' (hx : Ext w w') => rowMay_c q u w' (Sl.ext hu hx))
  have hlo := hide (fun w => isLife_c o1 o2 w)
  have hln := hide (fun w => isLife_c n1 n2 w)
  obtain ⟨UA, uc, eu⟩ := rw_val hu
  subst eu
  have hur := hide hu
  obtain ⟨E, hE⟩ : ∃ E, E = fdE q (o1, o2) (n1, n2) := ⟨_, rfl⟩
  have hRe : fdR q (o1, o2) (n1, n2) = if E = 0 then (nmL (chJ (o1, o2) (n1, n2))).map fun j => (q, j) else [] := by rw [hE]; rfl
  rw [hRe, ← hE]
  clear hRe hu
  unfold fdE at hE
  cases hm : mayR q
  · rw [hm] at hmay hE
    rw [if_neg (by decide)] at hE
    subst hE
    generalize q.length = ql at *
    go_enter Tryz.func44, Tryz.ntmps44
    go_wp2_with (go_at_call 105; first | ((with_reducible refine seq_gw' (hmay.out _ Gn.ext) ?_); intro g) | ((with_reducible refine seq_gw (hmay.out _ Gn.ext) ?_); intro g))
    go_returns
    first | exact ⟨_, rfl, OwnEr.nil _ _, Gn.ext⟩ | exact ⟨_, rfl, [], rfl, OwnEr.nil _ _, Gn.ext⟩ | exact ⟨_, [], rfl, rfl, OwnEr.nil _ _, Gn.ext⟩
  rw [hm] at hmay hE
  rw [if_pos rfl] at hE
  cases ho : lifeB (o1, o2)
  · rw [ho] at hlo hE
    rw [Bool.false_and, if_neg (by decide)] at hE
    subst hE
    generalize q.length = ql at *
    go_enter Tryz.func44, Tryz.ntmps44
    go_wp2_with (first | (go_at_call 105; first | ((with_reducible refine seq_gw' (hmay.out _ Gn.ext) ?_); intro g) | ((with_reducible refine seq_gw (hmay.out _ Gn.ext) ?_); intro g)) | (go_at_call 106; first | ((with_reducible refine seq_gw' (hlo.out _) ?_); intro g2) | ((with_reducible refine seq_gw (hlo.out _) ?_); intro g2)))
    go_returns
    first | exact ⟨_, rfl, OwnEr.nil _ _, Gn.ext⟩ | exact ⟨_, rfl, [], rfl, OwnEr.nil _ _, Gn.ext⟩ | exact ⟨_, [], rfl, rfl, OwnEr.nil _ _, Gn.ext⟩
  cases hn : lifeB (n1, n2)
  · rw [ho] at hlo hE
    rw [hn] at hln hE
    rw [Bool.and_false, if_neg (by decide)] at hE
    subst hE
    generalize q.length = ql at *
    go_enter Tryz.func44, Tryz.ntmps44
    go_wp2_with (first | (go_at_call 105; first | ((with_reducible refine seq_gw' (hmay.out _ Gn.ext) ?_); intro g) | ((with_reducible refine seq_gw (hmay.out _ Gn.ext) ?_); intro g)) | (go_at_call 106; first | ((with_reducible refine seq_gw' (hlo.out _) ?_); intro g2) | ((with_reducible refine seq_gw (hlo.out _) ?_); intro g2) | ((with_reducible refine seq_gw' (hln.out _) ?_); intro g3) | ((with_reducible refine seq_gw (hln.out _) ?_); intro g3)))
    go_returns
    first | exact ⟨_, rfl, OwnEr.nil _ _, Gn.ext⟩ | exact ⟨_, rfl, [], rfl, OwnEr.nil _ _, Gn.ext⟩ | exact ⟨_, [], rfl, rfl, OwnEr.nil _ _, Gn.ext⟩
  · rw [ho] at hlo hE
    rw [hn] at hln hE
    rw [Bool.and_self, if_pos rfl] at hE
    subst hE
    rw [if_pos rfl]
    have hne := ne_one q hm (chJ (o1, o2) (n1, n2)) (chJ_fine ho hn) (ch_may ho hn)
    have hnorm := hide (fun w' (hx : Ext w w') => edgeNorm_c (L4 (.slice UA q.length uc) q (o1, o2) (n1, n2)) (by simp) (fun r => Nat.le_trans (jmps_le _ r) (by simp [eds])) _ _ (ew_four (o := (o1, o2)) (n := (n1, n2)) (Sl.ext hur.out hx)))
    have e4 : ∀ V, eds (L4 V q (o1, o2) (n1, n2)) = (chJ (o1, o2) (n1, n2)).map fun j => (q, j) := fun V => rfl
    simp only [e4, hne.1, hne.2] at hnorm
    generalize ((nmL (chJ (o1, o2) (n1, n2))).map fun j => (q, j)) = R at *
    clear hne e4
    go_enter Tryz.func44, Tryz.ntmps44
    go_wp2_with (first | (go_at_call 105; first | ((with_reducible refine seq_gw' (hmay.out _ Gn.ext) ?_); intro g) | ((with_reducible refine seq_gw (hmay.out _ Gn.ext) ?_); intro g)) | (go_at_call 106; first | ((with_reducible refine seq_gw' (hlo.out _) ?_); intro g2) | ((with_reducible refine seq_gw (hlo.out _) ?_); intro g2) | ((with_reducible refine seq_gw' (hln.out _) ?_); intro g3) | ((with_reducible refine seq_gw (hln.out _) ?_); intro g3)) | (go_at_call 107; (refine (hnorm.out _ Gn.ext).mono ?_; rintro ee w5 ⟨v5, M5, rfl, hM5, ho5, hx5⟩; obtain ⟨A5, c5, e5⟩ := own_form ho5.1; subst e5; have hxx := hide ((Gn.ext (w := w)).trans hx5); replace hM5 := hide hM5; replace ho5 := hide ho5; clear hx5)))
    go_returns
    first | exact ⟨_, rfl, M5, hM5.out, ho5.out.lower (Gn.ext (w := w)).size, hxx.out⟩ | exact ⟨_, M5, rfl, hM5.out, ho5.out.lower (Gn.ext (w := w)).size, hxx.out⟩
end Go.Proofs.YtobmjcehgpmfgaaGreat
set_option linter.unusedVariables false
set_option linter.unusedSimpArgs false
namespace Go.Proofs.YtobmjcehgpmfgaaGreat
open Go.RowKit
/-- A cell for each row. -/
abbrev Rv := Value × List Vl
abbrev rvs (M : List Rv) : List (List Vl) := M.map Prod.snd
abbrev rcs (M : List Rv) : List Value := M.map Prod.fst

/-- What is asked of each edge, and of two that are neighbours. -/
def okE (e : Ed) : Bool := mayR e.1 && mayJ [e.2]
/-- The first n edges are in form, each by itself and behind the one ahead of it. -/
def Chk (l : List Ed) (n : Nat) : Prop := (∀ i e, i < n → l[i]? = some e → okE e = true) ∧ ∀ i a b, i + 1 < n → l[i]? = some a → l[i + 1]? = some b → elt a b
/-- What is made of the first k rows. -/
def Evs (op : List Jp → Int × List Jp) (l : List Ed) (k : Nat) (acc : List Ed) : Prop := (∀ g ∈ (byRows l).take k, (op g.2).1 = 0) ∧ acc = evL op ((byRows l).take k)
end Go.Proofs.YtobmjcehgpmfgaaGreat
set_option linter.unusedVariables false
set_option linter.unusedSimpArgs false
namespace Go.Proofs.YtobmjcehgpmfgaaGreat
open Go.RowKit
attribute [-go_sem] sliced
attribute [local go_sem] sliced_eq
attribute [local go_sem] GW.cell GW.frozen In.eq_true In.le_true In.ne In.ne' In.ne_add In.ne_add' In.lt_add Upto.le_true Upto.le_add Upto.lt_add
/-- A slice of rows, as it lies; its rows lie elsewhere. -/
abbrev OwnRs (w : World) (base : Nat) (v : Value) (M : List Rv) : Prop := w.ownsRow base 24 1 v M.length (rcs M)
def Rs (w : World) (v : Value) (M : List Rv) : Prop := Sl w [] 1 v M.length (rcs M) ∧ ∀ p ∈ M, Rw w [] p.1 p.2
end Go.Proofs.YtobmjcehgpmfgaaGreat
set_option linter.unusedVariables false
set_option linter.unusedSimpArgs false
namespace Go.Proofs.YtobmjcehgpmfgaaGreat
open Go.RowKit
attribute [local go_sem] GW.cell GW.frozen In.eq_true In.le_true In.ne In.ne' In.ne_add In.ne_add' In.lt_add Upto.le_true Upto.le_add Upto.lt_add
end Go.Proofs.YtobmjcehgpmfgaaGreat
set_option linter.unusedVariables false
set_option linter.unusedSimpArgs false
namespace Go.Proofs.YtobmjcehgpmfgaaGreat
open Go.RowKit
end Go.Proofs.YtobmjcehgpmfgaaGreat
set_option linter.unusedVariables false
set_option linter.unusedSimpArgs false
namespace Go.Proofs.YtobmjcehgpmfgaaGreat
open Go.RowKit
attribute [local go_sem] GW.cell GW.frozen In.eq_true In.le_true In.ne In.ne' In.ne_add In.ne_add' In.lt_add Upto.le_true Upto.le_add Upto.lt_add
def litF (n0 : Nat) : Fact := .st (fun u w => ∃ b, u = .slice (some ⟨b, 0, none⟩) 0 0 ∧ (n0 ≤ b ∧ Ob w b 113 [])) (fun _ _ _ ⟨b, e, h1, h2⟩ k => ⟨b, e, h1, h2.ext k⟩)
end Go.Proofs.YtobmjcehgpmfgaaGreat
set_option linter.unusedVariables false
set_option linter.unusedSimpArgs false
namespace Go.Proofs.YtobmjcehgpmfgaaGreat
open Go.RowKit
attribute [local go_sem] GW.cell GW.frozen In.eq_true In.le_true In.ne In.ne' In.ne_add In.ne_add' In.lt_add Upto.le_true Upto.le_add Upto.lt_add
end Go.Proofs.YtobmjcehgpmfgaaGreat
set_option linter.unusedVariables false
set_option linter.unusedSimpArgs false
namespace Go.Proofs.YtobmjcehgpmfgaaGreat
open Go.RowKit
attribute [local go_sem] GW.cell GW.frozen In.eq_true In.le_true In.ne In.ne' In.ne_add In.ne_add' In.lt_add Upto.le_true Upto.le_add Upto.lt_add
end Go.Proofs.YtobmjcehgpmfgaaGreat
set_option linter.unusedVariables false
set_option linter.unusedSimpArgs false
namespace Go.Proofs.YtobmjcehgpmfgaaGreat
open Go.RowKit
attribute [local go_sem] GW.cell GW.frozen In.eq_true In.le_true In.ne In.ne' In.ne_add In.ne_add' In.lt_add Upto.le_true Upto.le_add Upto.lt_add
end Go.Proofs.YtobmjcehgpmfgaaGreat
set_option linter.unusedVariables false
set_option linter.unusedSimpArgs false
namespace Go.Proofs.YtobmjcehgpmfgaaGreat
open Go.RowKit
attribute [local go_sem] GW.cell GW.frozen In.eq_true In.le_true In.ne In.ne' In.ne_add In.ne_add' In.lt_add Upto.le_true Upto.le_add Upto.lt_add
/-- Edges and rows that avoid a list. -/
def Apt (w : World) (S : List Nat) (lv rv : Value) (L : List Ve) (M : List Rv) : Prop := Ew w S lv L ∧ (Sl w S 1 rv M.length (rcs M) ∧ ∀ p ∈ M, Rw w S p.1 p.2)
end Go.Proofs.YtobmjcehgpmfgaaGreat
set_option linter.unusedVariables false
set_option linter.unusedSimpArgs false
namespace Go.Proofs.YtobmjcehgpmfgaaGreat
open Go.RowKit
attribute [local go_sem] GW.cell GW.frozen In.eq_true In.le_true In.ne In.ne' In.ne_add In.ne_add' In.lt_add Upto.le_true Upto.le_add Upto.lt_add
end Go.Proofs.YtobmjcehgpmfgaaGreat
set_option linter.unusedVariables false
set_option linter.unusedSimpArgs false
namespace Go.Proofs.YtobmjcehgpmfgaaGreat
open Go.RowKit
attribute [local go_sem] GW.cell GW.frozen In.eq_true In.le_true In.ne In.ne' In.ne_add In.ne_add' In.lt_add Upto.le_true Upto.le_add Upto.lt_add
theorem ne_may {l : List Ed} (h : neE l = 0) : mayE (neR l) = true := by
  obtain ⟨h1, h2, h3⟩ := ne_zero h
  obtain ⟨k1, k2, k3⟩ := each_zero h2
  have hv : ∀ e ∈ l, mayR e.1 = true := fun e he => by
    have := (h1 e he).1
    unfold badE at this
    cases hm : mayR e.1
    · rw [hm] at this; simp at this
    · rfl
  rw [h3]
  refine may_each (by rw [nmOp_nil]) hv k2 fun r => ?_
  have h0 := op_rows (op := nmOp) (by rw [nmOp_nil]) hv k1 r
  unfold nmOp at h0 ⊢
  simp only at h0 ⊢
  unfold nmR
  rw [if_pos h0]
  unfold nmE at h0
  split at h0
  · cases h0
  · split at h0
    · cases h0
    · unfold full at h0
      split at h0
      · assumption
      · cases h0
end Go.Proofs.YtobmjcehgpmfgaaGreat
