/-
  A helper of ours: no claim of its own. Layer 27 (snap): where a table changes, by the code.
-/
import Derived.Test.YtljkneajdndgjaaEdgFx
import Derived.Test.YtljkneajdndgjaaEdgCp
import Derived.Test.YtljkneajdndgjaaEdgEg
import Derived.Test.YtljkneajdndgjaaHopS
import Derived.Test.YtljkneajdndgjaaCouR
import Derived.Test.YtljkneajdndgjaaEdgEn
import Derived.Sort.LoopGhostIn
import Derived.Test.YtljkneajdndgjaaStepC
import Derived.Test.YtljkneajdndgjaaEdgB
import Derived.Test.YtljkneajdndgjaaHopR
import Derived.Test.YtljkneajdndgjaaHopH
set_option linter.unusedVariables false
set_option linter.unusedSimpArgs false
namespace Go.Proofs.Ytljkneajdndgjaa
open Go.RowKit
attribute [local go_sem] GW.cell GW.frozen In.eq_true In.le_true In.ne In.ne' In.ne_add In.ne_add' In.lt_add Upto.le_true Upto.le_add Upto.lt_add Oper.semAt_some wide_depth wide_fn
theorem grp_len2 : ∀ l : List Ed, (grp l).length ≤ l.length
  | [] => Nat.le_refl _
  | e :: l => by
    have ih := grp_len2 l
    rw [grp]
    split
    · simp
    · rename_i q f t h
      rw [h] at ih
      split <;> simp only [List.length_cons] at ih ⊢ <;> omega
/-- What is kept: a copy of the edges, if they are in form. -/
def GrPost (w : World) (L : List Ve) (b : Nat) (w' : World) : Prop := ∃ v' M, Ob w' b 22 [v'] ∧ eds M = (if mayE (eds L) then eds L else []) ∧ Ew w' [] v' M ∧ Ext w w'
set_option maxHeartbeats 8000000 in
set_option maxRecDepth 100000 in
theorem groups_c (L : List Ve) (v : Value) (w : World) (hC : Ew w [] v L) : Calls Try.prog 22 #[v] w fun e w' => ∃ b, e = .returned (.func (.func 51) #[] #[.pointer (some ⟨b, 0, none⟩)]) ∧ GrPost w L b w' := by
  have h1 := hide (fun w' (hX : Ext w w') => edgeMay_c L v w' (hC.ext hX))
  have hC' := hide hC
  obtain ⟨A, cap, rfl, hlc, hlm, -⟩ := ew_form hC
  have a3 : Ob (w.alloc (.cells #[.slice none 0 0] 22)) w.heap.size 22 [.slice none 0 0] := Ob.new w 22 [.slice none 0 0]
  have hX0 := hide ((Ext.refl w).alloc (.cells #[.slice none 0 0] 22))
  replace a3 := hide a3
  clear hC
  cases ha : mayE (eds L)
  · rw [ha] at h1
    go_enter Try.func22, Try.ntmps22
    go_wp2_with (go_at_call 20; (with_reducible refine seq_gw (h1.out _ hX0.out) ?_); intro g)
    go_returns
    exact ⟨_, rfl, show GrPost _ _ _ _ from ⟨_, [], a3.out.ext g.grown, by rw [ha]; rfl, ⟨Sl.nil _ _ _, by simp⟩, hX0.out.trans g.grown⟩⟩
  · rw [ha] at h1
    have hll : L.length ≤ 8192 := by have := mayE_len ha; simp [eds] at this; omega
    have hG := hide (show ∀ g ∈ grp (eds L), g.1.length ≤ 8 ∧ g.2.length ≤ 1024 from fun g hg => ⟨grp_r8 ha g hg, mayJ_len ((mayE_iff.1 ha).2.2 g hg)⟩)
    have hcp := hide (fun w' (hX : Ext w w') => copies_c L (.slice A L.length cap) w' (hC'.out.ext hX) hll hG.out)
    have ha' := hide ha
    clear ha
    go_enter Try.func22, Try.ntmps22
    go_wp2_with (first
      | (go_at_call 20; (with_reducible refine seq_gw (h1.out _ hX0.out) ?_); intro g)
      | (go_at_call 50; refine (hcp.out _ (hX0.out.trans g.grown)).mono ?_; rintro ee w2 ⟨v2, M, rfl, hM, ho2, hx2⟩; have o3 := (a3.out.ext g.grown).ext hx2; have hlt3 := o3.lt; have hc3 := o3.cell 0 rfl; have hfr3 := o3.free 0; obtain ⟨C2, c2, q2⟩ := own_form ho2.1; subst q2; haveI : In w.heap.size w2 := ⟨hlt3⟩))
    go_returns
    have hlg : w.heap.size < g.val.heap.size := by have := (a3.out.ext g.grown).lt; exact this
    have he : Ew w2 [w.heap.size] (.slice C2 M.length c2) M := ⟨Sl.own ho2.1 (fun x hx => by simp at hx; omega), fun p hp => Sl.less (ho2.2 p hp) (fun x hx => by simp at hx; subst hx; exact List.mem_append_right _ (List.mem_range.2 hlg))⟩
    refine ⟨_, rfl, show GrPost _ _ _ _ from ⟨_, M, o3.set 0 _, by rw [hM, ha'.out]; rfl, (he.fr ((Fr.refl [w.heap.size] w2).setCell ⟨w.heap.size, 0, none⟩ _ (.inl (by simp))) (fun _ h => h)).less (by simp), ((hX0.out.trans g.grown).trans hx2).setCell (p := ⟨w.heap.size, 0, none⟩) (by simp) _⟩⟩
end Go.Proofs.Ytljkneajdndgjaa
set_option linter.unusedVariables false
set_option linter.unusedSimpArgs false
namespace Go.Proofs.Ytljkneajdndgjaa
open Go.RowKit
attribute [local go_sem] GW.cell GW.frozen In.eq_true In.le_true In.ne In.ne' In.ne_add In.ne_add' In.lt_add Upto.le_true Upto.le_add Upto.lt_add Oper.semAt_some wide_depth wide_fn
theorem sl_lit (w : World) (E sz : Nat) (xs : List Value) (h : xs.length = sz) : Sl (w.alloc (.cells xs.toArray E)) [] sz (.slice (some ⟨w.heap.size, 0, none⟩) 1 1) 1 xs :=
  ⟨_, 1, rfl, Nat.le_refl _, by unfold maxLen; omega, by omega, .inr ⟨w.heap.size, 0, rfl, by simp, fun j u hu => by rw [Nat.zero_add]; exact (Ob.new w E xs).cell j hu⟩⟩
theorem ob_objS {w : World} {base e size n : Nat} {v : Value} {xs : List Value} (h : w.ownsRow base e size v n xs) : ∀ y ∈ ob v, ∃ T vs, Ob w y T vs := by
  intro y hy
  have hy' : v.ownBlock = some y := Option.mem_toList.1 hy
  rcases h.2 with ⟨rfl, _⟩ | ⟨g, cap, cur, rfl, hb, hg, _⟩
  · cases hy'
  · have : y = g := by simpa [Value.ownBlock] using hy'.symm
    subst this
    exact ⟨e, cur.toList, by unfold Ob; simpa using hg⟩
/-- A row and its function, as they lie. -/
abbrev Vk := Value × Value × Gp
def kc1 (p : Vk) : List Value := [p.1, p.2.1]
def kc (L : List Vk) : List Value := L.flatMap kc1
theorem no_kind {w : World} {b : Nat} {cs : Array Value} {T : TypeId} {c : Nat × Nat} (h : w.heap[b]? = some (.cells cs T c)) {E : TypeId} (hT : T ≠ E) : ∀ ds d, w.heap[b]? ≠ some (.cells ds E d) := by
  intro ds d hd
  rw [h] at hd
  injection hd with hd
  injection hd with _ hd
  exact hT hd
end Go.Proofs.Ytljkneajdndgjaa
set_option linter.unusedVariables false
set_option linter.unusedSimpArgs false
namespace Go.Proofs.Ytljkneajdndgjaa
open Go.RowKit
attribute [local go_sem] GW.cell GW.frozen In.eq_true In.le_true In.ne In.ne' In.ne_add In.ne_add' In.lt_add Upto.le_true Upto.le_add Upto.lt_add
theorem tCp : ElemT Try.prog 42 54 (.agg #[.slice none 0 0, .int .i64 0]) 2 32 := ElemT.mk' Try.underlying42 (by kernel_rfl) rfl (by omega)
/-- One more copy. -/
theorem OwnC.app {w w' : World} {B : Nat} {v v' : Value} {C : List Vc} {c : Vc} {u : Value} {cs : List Value} {cap : Nat} (h : OwnC w B v C) (hF : Fr (ob v) w w') (ho : w'.ownsRow B 54 2 v' (C.length + 1) (cc C ++ cc1 c)) (hc : OwnR w 0 c.1 c.2.1) : OwnC w' B v' (C ++ [c]) := by
  refine ⟨by rw [List.length_append, cc_append]; simpa [cc] using ho, fun p hp => ?_⟩
  rcases List.mem_append.1 hp with hp | hp
  · exact own_away (h.2 p hp) hF (own_far h.1 (h.2 p hp) (by decide))
  · obtain rfl := List.mem_singleton.1 hp
    exact own_away hc hF (own_far h.1 hc (by decide))
end Go.Proofs.Ytljkneajdndgjaa
set_option linter.unusedVariables false
set_option linter.unusedSimpArgs false
namespace Go.Proofs.Ytljkneajdndgjaa
open Go.RowKit

section
variable {P : Program} {ops : Array Oper} {Φ : Nat → Value → World → Prop} {Q : Exit → Act → World → Prop} {a : Act} {W : World} {G : World → World → Prop} {J : (Nat → Bool) → World → Prop} {K : List Nat}

def done (Lf : Nat → Bool) (i : Nat) : Nat → Bool := fun j => if j = i then true else Lf j
structure RAt2 (ops : Array Oper) (Φ : Nat → Value → World → Prop) (G : World → World → Prop) (J : (Nat → Bool) → World → Prop) (a : Act) (W : World) (i : Nat) (Lf : Nat → Bool) (b : Act) (w : World) : Prop where
  ext : G W w
  defers : b.defers = a.defers
  size : b.tmps.size = a.tmps.size
  else_ : ∀ t, t ∉ dstsOf ops → b.tmps.getD t undef = a.tmps.getD t undef
  dep : ∀ j o d, depB ops i j = true → ops[j]? = some o → o.dst = some d → Φ j (b.tmps.getD d undef) w
  deps : ∀ j, depB ops i j = true → Lf j = true
  fresh : Lf i = false
  obj : J Lf w
structure RInv2 (ops : Array Oper) (Φ : Nat → Value → World → Prop) (G : World → World → Prop) (J : (Nat → Bool) → World → Prop) (a : Act) (W : World) (listed : Array Bool) (b : Act) (w : World) : Prop where
  ext : G W w
  defers : b.defers = a.defers
  size : b.tmps.size = a.tmps.size
  len : listed.size = ops.size
  else_ : ∀ t, t ∉ dstsOf ops → b.tmps.getD t undef = a.tmps.getD t undef
  fact : ∀ j o d, ops[j]? = some o → listed.getD j false = true → o.dst = some d → Φ j (b.tmps.getD d undef) w
  obj : J (fun j => listed.getD j false) w

/-- Facts that stay where all but the blocks of S stay. -/
inductive FactS (S : List Nat) where
  | is (v : Value)
  | st (p : Value → World → Prop) (h : ∀ v w w', p v w → Fr S w w' → p v w')
  | any
end
end Go.Proofs.Ytljkneajdndgjaa
set_option linter.unusedVariables false
set_option linter.unusedSimpArgs false
namespace Go.Proofs.Ytljkneajdndgjaa
open Go.RowKit
section
variable {P : Program} {ops : Array Oper} {Φ : Nat → Value → World → Prop} {Q : Exit → Act → World → Prop} {a : Act} {W : World} {G : World → World → Prop} {d0 : Nat} {J : (Nat → Bool) → Value → World → Prop} {K : List Nat}
structure RAt5 (ops : Array Oper) (Φ : Nat → Value → World → Prop) (G : World → World → Prop) (d0 : Nat) (J : (Nat → Bool) → Value → World → Prop) (a : Act) (W : World) (i : Nat) (Lf : Nat → Bool) (b : Act) (w : World) : Prop where
  ext : G W w
  defers : b.defers = a.defers
  size : b.tmps.size = a.tmps.size
  else_ : ∀ t, t ∉ dstsOf ops → b.tmps.getD t undef = a.tmps.getD t undef
  dep : ∀ j o d, depB ops i j = true → ops[j]? = some o → o.dst = some d → Φ j (b.tmps.getD d undef) w
  deps : ∀ j, depB ops i j = true → Lf j = true
  fresh : Lf i = false
  obj : J Lf (b.tmps.getD d0 undef) w
structure RInv5 (ops : Array Oper) (Φ : Nat → Value → World → Prop) (G : World → World → Prop) (d0 : Nat) (J : (Nat → Bool) → Value → World → Prop) (a : Act) (W : World) (listed : Array Bool) (b : Act) (w : World) : Prop where
  ext : G W w
  defers : b.defers = a.defers
  size : b.tmps.size = a.tmps.size
  len : listed.size = ops.size
  else_ : ∀ t, t ∉ dstsOf ops → b.tmps.getD t undef = a.tmps.getD t undef
  fact : ∀ j o d, ops[j]? = some o → listed.getD j false = true → o.dst = some d → Φ j (b.tmps.getD d undef) w
  obj : J (fun j => listed.getD j false) (b.tmps.getD d0 undef) w

end
end Go.Proofs.Ytljkneajdndgjaa
set_option linter.unusedVariables false
set_option linter.unusedSimpArgs false
namespace Go.Proofs.Ytljkneajdndgjaa
open Go.RowKit
attribute [local go_sem] GW.cell GW.frozen In.eq_true In.le_true In.ne In.ne' In.ne_add In.ne_add' In.lt_add Upto.le_true Upto.le_add Upto.lt_add Oper.semAt_some wide_depth wide_fn
/-- What a round leaves alone, told from its start. -/
def Thr (B n₀ : Nat) (X : List Nat) (Wo W : World) : Prop := KeepsFrom B Wo W ∧ (BelX n₀ X Wo W ∧ Qk B Wo W)
theorem Thr.refl (B n₀ : Nat) (X : List Nat) (W : World) : Thr B n₀ X W W := ⟨keeps_ext (Ext.refl W), BelX.refl _ _ _, fun b T us _ _ h => h⟩
theorem Thr.size {B n₀ : Nat} {X : List Nat} {Wo W : World} (h : Thr B n₀ X Wo W) : Wo.heap.size ≤ W.heap.size := h.1.size
theorem Thr.fr {B n₀ : Nat} {X S : List Nat} {Wo W W' : World} (h : Thr B n₀ X Wo W) (hF : Fr S W W') (hn : n₀ ≤ W.heap.size) (hS : ∀ b ∈ S, (n₀ ≤ b ∨ b ∈ X) ∧ ((∃ T vs, Ob W b T vs) ∨ b < B) ∧ (B ≤ b → ∀ T us, T ≠ 54 → ¬ Ob W b T us)) : Thr B n₀ X Wo W' := by
  refine ⟨keepsF_trans h.1 ⟨hF.size, fun k o hk ho hc => (hF.block k (lt_of_block ho) (fun m => ?_)).trans ho⟩, h.2.1.trans (belX_fr hF hn (fun b hb => (hS b hb).1)), h.2.2.trans (fun b T us hb hT ho => ho.fr hF (fun m => (hS b m).2.2 hb T us hT ho))⟩
  rcases (hS k m).2.1 with ⟨T, vs, h1⟩ | h1
  · unfold Ob at h1
    rw [h1] at ho
    obtain rfl := Option.some.inj ho
    cases hc
  · omega
theorem Thr.ext {B n₀ : Nat} {X : List Nat} {Wo W W' : World} (h : Thr B n₀ X Wo W) (hn : n₀ ≤ W.heap.size) (k : Ext W W') : Thr B n₀ X Wo W' := h.fr (S := []) (Fr.of_ext k) hn (by simp)
theorem szStab (B0 B : Nat) : Stab B fun W => B0 ≤ W.heap.size := ⟨fun A C h e => Nat.le_trans h e.size, fun A l o o' h _ _ _ => by simpa using h⟩
end Go.Proofs.Ytljkneajdndgjaa
set_option linter.unusedVariables false
set_option linter.unusedSimpArgs false
namespace Go.Proofs.Ytljkneajdndgjaa
open Go.RowKit
attribute [local go_sem] GW.cell GW.frozen In.eq_true In.le_true In.ne In.ne' In.ne_add In.ne_add' In.lt_add Upto.le_true Upto.le_add Upto.lt_add
section
variable {α : Type} {f : α → Lit × Value} {P : Program} {k : TypeId} {w : World} {b n : Nat} {M : List α} {ops : Array Oper} {rest : List Oper} {o : Oper} {a : Act} {Q : Exit → Act → World → Prop}
end
end Go.Proofs.Ytljkneajdndgjaa
