/-
  A helper of ours: no claim of its own. Layer 13 (fold): lists of one's own whose elements have rows of one's own.
-/
import Derived.Test.YtajelkkiijdegaaGreatDrRowD
import Derived.Test.YtajelkkiijdegaaGreatEdgEn
import Derived.Test.YtajelkkiijdegaaGreatSortE
import Derived.Lib.AppendZerosOnto
import Derived.Lib.LazyBuf
import Derived.WalkLawsBesides
import Derived.Test.YtajelkkiijdegaaGreatSpanA
import Derived.Test.YtajelkkiijdegaaGreatRowE
import Derived.Test.YtajelkkiijdegaaGreatBagC
set_option linter.unusedVariables false
set_option linter.unusedSimpArgs false
namespace Go.Proofs.YtajelkkiijdegaaGreat.Dr
open Go.RowKit
attribute [local go_sem] GW.cell GW.frozen In.eq_true In.le_true In.ne In.ne' In.ne_add In.ne_add' In.lt_add Upto.le_true Upto.le_add Upto.lt_add
theorem ext_grow {W w : World} (h : Ext W w) : ∃ q os', w = Go.Sort.grow (W.drewN q) os' := by
  obtain ⟨⟨hos, htape, hout, hsize, hblock⟩, hd⟩ := h
  refine ⟨w.drawn - W.drawn, w.heap.extract W.heap.size w.heap.size, ?_⟩
  have hh : w.heap = W.heap ++ w.heap.extract W.heap.size w.heap.size := by
    apply Array.ext_getElem?
    intro i
    by_cases hi : i < W.heap.size
    · rw [Array.getElem?_append_left hi, hblock i hi]
    · rw [Array.getElem?_append_right (by omega), Array.getElem?_extract]
      by_cases hj : i < w.heap.size
      · rw [if_pos (by omega)]; congr 1; omega
      · rw [if_neg (by omega), Array.getElem?_eq_none (by omega)]
  obtain ⟨wh, wt, wd, wo, wu⟩ := w
  obtain ⟨Wh, Wt, Wd, Wo, Wu⟩ := W
  simp only at hos htape hout hd hh
  subst hos; subst htape; subst hout
  unfold Go.Sort.grow World.drewN
  simp only
  rw [show Wd + (wd - Wd) = wd by omega]
  congr 1
end Go.Proofs.YtajelkkiijdegaaGreat.Dr
namespace Go.Proofs.YtajelkkiijdegaaGreat
open Go.RowKit
/-- An edge whose row is one, and lies elsewhere than in block g. -/
abbrev SE (w : World) (g : Nat) := { p : Ve // Rw w [g] p.1 p.2.1 ∧ mayR p.2.1 = true }
instance (w : World) (g : Nat) : Inhabited (SE w g) := ⟨⟨(.slice none 0 0, [], (0, 0)), Sl.nil w [g] 3, rfl⟩⟩
end Go.Proofs.YtajelkkiijdegaaGreat
set_option linter.unusedVariables false
set_option linter.unusedSimpArgs false
namespace Go.Proofs.YtajelkkiijdegaaGreat
open Go.RowKit
attribute [local go_sem] GW.cell GW.frozen In.eq_true In.le_true In.ne In.ne' In.ne_add In.ne_add' In.lt_add Upto.le_true Upto.le_add Upto.lt_add
theorem mayR_len {r : List Vl} (h : mayR r = true) : r.length ≤ 8 := (mayR_iff.1 h).1
end Go.Proofs.YtajelkkiijdegaaGreat
set_option linter.unusedVariables false
set_option linter.unusedSimpArgs false
namespace Go.Proofs.YtajelkkiijdegaaGreat
open Go.RowKit
attribute [local go_sem] GW.cell GW.frozen In.eq_true In.le_true In.ne In.ne' In.ne_add In.ne_add' In.lt_add Upto.le_true Upto.le_add Upto.lt_add Oper.semAt_some wide_depth wide_fn
end Go.Proofs.YtajelkkiijdegaaGreat
set_option linter.unusedVariables false
set_option linter.unusedSimpArgs false
namespace Go.Proofs.YtajelkkiijdegaaGreat
open Go.RowKit
attribute [local go_sem] GW.cell GW.frozen In.eq_true In.le_true In.ne In.ne' In.ne_add In.ne_add' In.lt_add Upto.le_true Upto.le_add Upto.lt_add
end Go.Proofs.YtajelkkiijdegaaGreat
set_option linter.unusedVariables false
set_option linter.unusedSimpArgs false
namespace Go.Proofs.YtajelkkiijdegaaGreat
open Go.RowKit
attribute [local go_sem] GW.cell GW.frozen In.eq_true In.le_true In.ne In.ne' In.ne_add In.ne_add' In.lt_add Upto.le_true Upto.le_add Upto.lt_add
end Go.Proofs.YtajelkkiijdegaaGreat
set_option linter.unusedVariables false
set_option linter.unusedSimpArgs false
namespace Go.Proofs.YtajelkkiijdegaaGreat
open Go.RowKit
attribute [local go_sem] GW.cell GW.frozen In.eq_true In.le_true In.ne In.ne' In.ne_add In.ne_add' In.lt_add Upto.le_true Upto.le_add Upto.lt_add Oper.semAt_some wide_depth wide_fn
end Go.Proofs.YtajelkkiijdegaaGreat
set_option linter.unusedVariables false
set_option linter.unusedSimpArgs false
namespace Go.Proofs.YtajelkkiijdegaaGreat
open Go.RowKit
attribute [local go_sem] GW.cell GW.frozen In.eq_true In.le_true In.ne In.ne' In.ne_add In.ne_add' In.lt_add Upto.le_true Upto.le_add Upto.lt_add Oper.semAt_some wide_depth wide_fn
end Go.Proofs.YtajelkkiijdegaaGreat
set_option linter.unusedVariables false
set_option linter.unusedSimpArgs false
namespace Go.Proofs.YtajelkkiijdegaaGreat
open Go.RowKit
attribute [local go_sem] GW.cell GW.frozen In.eq_true In.le_true In.ne In.ne' In.ne_add In.ne_add' In.lt_add Upto.le_true Upto.le_add Upto.lt_add Oper.semAt_some wide_depth wide_fn
end Go.Proofs.YtajelkkiijdegaaGreat
set_option linter.unusedVariables false
set_option linter.unusedSimpArgs false
namespace Go.Proofs.YtajelkkiijdegaaGreat
open Go.RowKit
attribute [local go_sem] GW.cell GW.frozen In.eq_true In.le_true In.ne In.ne' In.ne_add In.ne_add' In.lt_add Upto.le_true Upto.le_add Upto.lt_add
end Go.Proofs.YtajelkkiijdegaaGreat
set_option linter.unusedVariables false
set_option linter.unusedSimpArgs false
namespace Go.Proofs.YtajelkkiijdegaaGreat
open Go.RowKit
end Go.Proofs.YtajelkkiijdegaaGreat
set_option linter.unusedVariables false
set_option linter.unusedSimpArgs false
namespace Go.Proofs.YtajelkkiijdegaaGreat
open Go.RowKit
attribute [local go_sem] GW.cell GW.frozen In.eq_true In.le_true In.ne In.ne' In.ne_add In.ne_add' In.lt_add Upto.le_true Upto.le_add Upto.lt_add Oper.semAt_some wide_depth wide_fn
end Go.Proofs.YtajelkkiijdegaaGreat
set_option linter.unusedVariables false
set_option linter.unusedSimpArgs false
namespace Go.Proofs.YtajelkkiijdegaaGreat
open Go.RowKit
attribute [local go_sem] GW.cell GW.frozen In.eq_true In.le_true In.ne In.ne' In.ne_add In.ne_add' In.lt_add Upto.le_true Upto.le_add Upto.lt_add Oper.semAt_some wide_depth wide_fn
end Go.Proofs.YtajelkkiijdegaaGreat
set_option linter.unusedVariables false
set_option linter.unusedSimpArgs false
namespace Go.Proofs.YtajelkkiijdegaaGreat
open Go.RowKit
/-- What lies below a place, but in blocks of X, is as it was. -/
structure BelX (B : Nat) (X : List Nat) (w w' : World) : Prop where
  os : w'.os = w.os
  tape : w'.tape = w.tape
  output : w'.output = w.output
  size : w.heap.size ≤ w'.heap.size
  block : ∀ k, k < B → k ∉ X → w'.heap[k]? = w.heap[k]?
theorem BelX.of {B : Nat} {X : List Nat} {w w' : World} (h : Below B w w') : BelX B X w w' := ⟨h.os, h.tape, h.output, h.size, fun k hk _ => h.block k hk⟩
theorem BelX.trans {B : Nat} {X : List Nat} {w w' w'' : World} (h : BelX B X w w') (k : BelX B X w' w'') : BelX B X w w'' := ⟨k.os.trans h.os, k.tape.trans h.tape, k.output.trans h.output, Nat.le_trans h.size k.size, fun i hi hx => (k.block i hi hx).trans (h.block i hi hx)⟩
theorem belX_fr {S X : List Nat} {n₀ : Nat} {W W' : World} (h : Fr S W W') (hn : n₀ ≤ W.heap.size) (hS : ∀ b ∈ S, n₀ ≤ b ∨ b ∈ X) : BelX n₀ X W W' :=
  ⟨h.os, h.tape, h.output, h.size, fun k hk hx => h.block k (by omega) fun hm => (hS k hm).elim (fun h => by omega) hx⟩
section
variable {β : Type} {P : Program} {g : Operand} {ps : Array Tmp} {assign body : Code} {Q : Exit → Act → World → Prop} {a : Act} {w w0 : World} {gf n₀ : Nat} {X : List Nat} {lb : Array Value} {H : β → Array Value → World → Prop} {xs : List β}
end

section
variable {β : Type} {P : Program} {g : Operand} {ps : Array Tmp} {assign body : Code} {Q : Exit → Act → World → Prop} {a : Act} {w w0 : World} {gf n₀ : Nat} {X : List Nat} {lb : Array Value} {H : β → Array Value → World → Prop} {xs : List β}
end

end Go.Proofs.YtajelkkiijdegaaGreat
set_option linter.unusedVariables false
set_option linter.unusedSimpArgs false
namespace Go.Proofs.YtajelkkiijdegaaGreat
open Go.RowKit
attribute [-go_sem] sliced
attribute [local go_sem] sliced_eq
attribute [local go_sem] GW.cell GW.frozen In.eq_true In.le_true In.ne In.ne' In.ne_add In.ne_add' In.lt_add Upto.le_true Upto.le_add Upto.lt_add Oper.semAt_some wide_depth wide_fn
end Go.Proofs.YtajelkkiijdegaaGreat
set_option linter.unusedVariables false
set_option linter.unusedSimpArgs false
namespace Go.Proofs.YtajelkkiijdegaaGreat
open Go.RowKit
attribute [local go_sem] GW.cell GW.frozen In.eq_true In.le_true In.ne In.ne' In.ne_add In.ne_add' In.lt_add Upto.le_true Upto.le_add Upto.lt_add Oper.semAt_some wide_depth wide_fn
end Go.Proofs.YtajelkkiijdegaaGreat
set_option linter.unusedVariables false
set_option linter.unusedSimpArgs false
namespace Go.Proofs.YtajelkkiijdegaaGreat
open Go.RowKit
attribute [local go_sem] GW.cell GW.frozen In.eq_true In.le_true In.ne In.ne' In.ne_add In.ne_add' In.lt_add Upto.le_true Upto.le_add Upto.lt_add
attribute [-go_sem] sliced
attribute [local go_sem] sliced_eq
end Go.Proofs.YtajelkkiijdegaaGreat
set_option linter.unusedVariables false
set_option linter.unusedSimpArgs false
namespace Go.Proofs.YtajelkkiijdegaaGreat
open Go.RowKit
attribute [local go_sem] GW.cell GW.frozen In.eq_true In.le_true In.ne In.ne' In.ne_add In.ne_add' In.lt_add Upto.le_true Upto.le_add Upto.lt_add Oper.semAt_some wide_depth wide_fn
section
variable {α : Type} {f : α → Lit × Value} {P : Program} {k : TypeId} {w : World} {b n : Nat} {M : List α} {ops : Array Oper} {rest : List Oper} {o : Oper} {a : Act} {Q : Exit → Act → World → Prop} {F : Fence} {d : Nat}
theorem Mv.isMap (h : Mv w P k f b n M) : ∃ es c, w.heap[b]? = some (.map es c) := by
  obtain ⟨es, ⟨es', c, h, _⟩, _⟩ := h
  exact ⟨es', c, h⟩
end
end Go.Proofs.YtajelkkiijdegaaGreat
set_option linter.unusedVariables false
set_option linter.unusedSimpArgs false
namespace Go.Proofs.YtajelkkiijdegaaGreat
open Go.RowKit
/-- Block b holds no cells of type e. -/
def NT (w : World) (e : TypeId) (b : Nat) : Prop := ∀ cs c, w.heap[b]? ≠ some (.cells cs e c)
theorem Ob.nt {w : World} {b : Nat} {T e : TypeId} {vs : List Value} (h : Ob w b T vs) (hT : T ≠ e) : NT w e b := fun cs c hc => by
  unfold Ob at h
  rw [h] at hc
  injection hc with hc
  injection hc with _ h2
  exact hT h2
theorem map_nt {w : World} {b : Nat} {e : TypeId} (h : ∃ es c, w.heap[b]? = some (.map es c)) : NT w e b := fun cs c hc => by
  obtain ⟨es, c', h⟩ := h
  rw [h] at hc
  cases hc
theorem own_nt {w : World} {base e e2 sz n : Nat} {v : Value} {xs : List Value} (h : w.ownsRow base e2 sz v n xs) (hT : e2 ≠ e) : ∀ b ∈ ob v, NT w e b := by
  intro b hb cs c hc
  rcases h.2 with ⟨rfl, -⟩ | ⟨g, cap, cur, rfl, -, hg, -⟩
  · simp [ob, Value.ownBlock] at hb
  · have : b = g := by simpa [ob, Value.ownBlock] using hb
    subst this
    rw [hg] at hc
    injection hc with hc
    injection hc with _ h2
    exact hT h2
/-- A row of one's own stays where blocks without its cells are turned. -/
theorem own_stay {w w' : World} {S : List Nat} {base e sz n : Nat} {v : Value} {xs : List Value} (h : w.ownsRow base e sz v n xs) (hF : Fr S w w') (hS : ∀ b ∈ S, NT w e b) : w'.ownsRow base e sz v n xs := by
  refine ⟨h.1, ?_⟩
  rcases h.2 with h2 | ⟨g, cap, cur, e1, hb, hg, r⟩
  · exact .inl h2
  · exact .inr ⟨g, cap, cur, e1, hb, (hF.block g (lt_of_block hg) (fun m => hS g m _ _ hg)).trans hg, r⟩
def RwO (w : World) (v : Value) (l : List Vl) : Prop := w.ownsRow 0 83 3 v l.length (rc l)
theorem RwO.rw {w : World} {v : Value} {l : List Vl} (h : RwO w v l) : Rw w [] v l := Sl.own h (by simp)
theorem RwO.ext {w w' : World} {v : Value} {l : List Vl} (h : RwO w v l) (k : Ext w w') : RwO w' v l := own_ext h k
theorem RwO.stay {w w' : World} {S : List Nat} {v : Value} {l : List Vl} (h : RwO w v l) (hF : Fr S w w') (hS : ∀ b ∈ S, NT w 83 b) : RwO w' v l := own_stay h hF hS
/-- A list of one's own: each element has a row. -/
def OwnX {α : Type} (e : TypeId) (sz : Nat) (f : Value → α → List Value) (row : α → List Vl) (w : World) (base : Nat) (v : Value) (L : List (Value × α)) : Prop := w.ownsRow base e sz v L.length (L.flatMap fun p => f p.1 p.2) ∧ ∀ p ∈ L, RwO w p.1 (row p.2)
section
variable {α : Type} {e : TypeId} {sz : Nat} {f : Value → α → List Value} {row : α → List Vl} {w w' : World} {base : Nat} {v v' : Value} {L M : List (Value × α)}
theorem OwnX.nil (w : World) (base : Nat) : OwnX e sz f row w base (.slice none 0 0) [] := ⟨World.ownsRow_nil _ _ _ _, by simp⟩
theorem OwnX.ext (h : OwnX e sz f row w base v L) (k : Ext w w') : OwnX e sz f row w' base v L := ⟨own_ext h.1 k, fun p hp => (h.2 p hp).ext k⟩
theorem OwnX.stay {S : List Nat} (h : OwnX e sz f row w base v L) (hF : Fr S w w') (hS : ∀ b ∈ S, NT w e b ∧ NT w 83 b) : OwnX e sz f row w' base v L := ⟨own_stay h.1 hF fun b hb => (hS b hb).1, fun p hp => (h.2 p hp).stay hF fun b hb => (hS b hb).2⟩
theorem OwnX.app (he : e ≠ 83) (h : OwnX e sz f row w base v L) (ho : w'.ownsRow base e sz v' (L.length + M.length) ((L.flatMap fun p => f p.1 p.2) ++ M.flatMap fun p => f p.1 p.2)) (hg : w.grownBy w' v.ownBlock) (hM : ∀ p ∈ M, RwO w p.1 (row p.2)) : OwnX e sz f row w' base v' (L ++ M) := by
  refine ⟨by rw [List.length_append, List.flatMap_append]; exact ho, fun p hp => ?_⟩
  have hF := fr_grown hg
  have hN := own_nt h.1 he
  rcases List.mem_append.1 hp with hp | hp
  · exact (h.2 p hp).stay hF hN
  · exact (hM p hp).stay hF hN
theorem OwnX.form (h : OwnX e sz f row w base v L) : ∃ A cap, v = .slice A L.length cap := own_form h.1
end
/-- What a report leaves as it is. -/
theorem put_done {w w' wA : World} {s mb : Nat} {S : List Nat} (hF : Fr S w w') (hX : Ext wA w) (hS : ∀ b ∈ S, wA.heap.size ≤ b ∧ b ≠ s ∧ b ≠ mb) (hst : StOk w s mb) : Ext wA w' ∧ w'.heap[s]? = w.heap[s]? ∧ w'.heap[mb]? = w.heap[mb]? := by
  obtain ⟨⟨vs, h1⟩, es, c, h2⟩ := hst
  exact ⟨ext_fr hX hF fun b hb => (hS b hb).1, hF.block s h1.lt fun m => (hS s m).2.1 rfl, hF.block mb (lt_of_block h2) fun m => (hS mb m).2.2 rfl⟩
theorem StOk.nt {w : World} {s mb : Nat} (h : StOk w s mb) {e : TypeId} (he : 212 ≠ e) : ∀ b ∈ [s, mb], NT w e b := by
  obtain ⟨⟨vs, h1⟩, h2⟩ := h
  intro b hb
  simp only [List.mem_cons, List.not_mem_nil, or_false] at hb
  rcases hb with rfl | rfl
  · exact h1.nt he
  · exact map_nt h2
theorem StOk.ne_ob {w : World} {s mb b : Nat} {T : TypeId} {vs : List Value} (h : StOk w s mb) (hb : Ob w b T vs) (hT : 212 ≠ T) : b ≠ s ∧ b ≠ mb := by
  have h1 := h.nt hT
  exact ⟨fun e => by subst e; exact h1 b (by simp) _ _ hb, fun e => by subst e; exact h1 b (by simp) _ _ hb⟩
theorem StOk.ne_own {w : World} {s mb base e sz n : Nat} {v : Value} {xs : List Value} (h : StOk w s mb) (ho : w.ownsRow base e sz v n xs) (hT : 212 ≠ e) : ∀ b ∈ ob v, b ≠ s ∧ b ≠ mb := by
  have h1 := h.nt hT
  intro b hb
  rcases ho.2 with ⟨rfl, -⟩ | ⟨g, cap, cur, rfl, -, hg, -⟩
  · simp [ob, Value.ownBlock] at hb
  · have : b = g := by simpa [ob, Value.ownBlock] using hb
    subst this
    exact ⟨fun e => by subst e; exact h1 b (by simp) _ _ hg, fun e => by subst e; exact h1 b (by simp) _ _ hg⟩
end Go.Proofs.YtajelkkiijdegaaGreat
