/-
  A helper of ours: no claim of its own. Layer 11 (pack): pieces of one's own, and the pieces of rows with functions as lists.
-/
import Derived.Test.YtiknkcadbaeknaaGreatPakM
import Derived.Test.YtiknkcadbaeknaaGreatStepR
import Derived.Test.YtiknkcadbaeknaaGreatEdgO
import Derived.Test.YtiknkcadbaeknaaGreatFolO
import Derived.Test.YtiknkcadbaeknaaGreatEdgGs
import Derived.Test.YtiknkcadbaeknaaGreatPakP
set_option linter.unusedVariables false
set_option linter.unusedSimpArgs false
namespace Go.Proofs.YtiknkcadbaeknaaGreat
open Go.RowKit
theorem tSpn : ElemT Tryz.prog 217 42 (.agg #[.int .i64 0, .int .i64 0]) 2 16 := ElemT.mk' Tryz.underlying217 (by kernel_rfl) rfl (by omega)
theorem buildS1 (x : Jp) (w : World) : (Instr.buildSlice 217 1 #[(0, jm x)]).run Tryz.prog w = .ok (.slice (some ⟨w.heap.size, 0, none⟩) 1 1) (w.alloc (.cells #[.int .i64 x.1, .int .i64 x.2] 42)) := by
  simp [go_sem]
theorem oneS_new (x : Jp) (w : World) : Jw (w.alloc (.cells #[.int .i64 x.1, .int .i64 x.2] 42)) [] (.slice (some ⟨w.heap.size, 0, none⟩) 1 1) [x] :=
  Sl.own (World.ownsRow_lit (base := w.heap.size) (e := 42) (size := 2) w #[.int .i64 x.1, .int .i64 x.2] 1 (Nat.le_refl _) (by decide) rfl) (by simp)
abbrev OwnSp (w : World) (base : Nat) (v : Value) (l : List Sp) : Prop := w.ownsRow base 42 2 v l.length (ps l)
abbrev OwnIo (w : World) (base : Nat) (v : Value) (l : List Int) : Prop := OwnO w base 3 1 v l.length (zc l)
theorem own_appS {w : World} {B : Nat} {v : Value} {l m : List Sp} (h : w.ownsRow B 42 2 v (l.length + m.length) (ps l ++ ps m)) : OwnSp w B v (l ++ m) := by
  unfold OwnSp; rw [List.length_append, ps_append]; exact h
theorem own_appIo {w : World} {B : Nat} {v : Value} {l : List Int} {x : Int} (h : OwnO w B 3 1 v (l.length + 1) (zc l ++ [.int .i64 x])) : OwnIo w B v (l ++ [x]) := by
  unfold OwnIo; rw [List.length_append, zc_append]; exact h
section
variable {w w' w1 : World} {base e size n : Nat} {v : Value} {xs : List Value}
theorem own_heap (h : w.ownsRow base e size v n xs) {g : Nat} (hg : v.ownBlock = some g) : ∃ cur, w.heap[g]? = some (.cells cur e (0, 0)) := by
  rcases h.2 with ⟨rfl, _⟩ | ⟨g', cap, cur, rfl, hb, hh, _⟩
  · cases hg
  · obtain rfl : g' = g := by simpa [Value.ownBlock] using hg
    exact ⟨cur, hh⟩
theorem own_keep (h : w.ownsRow base e size v n xs) (hk : ∀ g, v.ownBlock = some g → w'.heap[g]? = w.heap[g]?) : w'.ownsRow base e size v n xs := by
  refine ⟨h.1, ?_⟩
  rcases h.2 with h2 | ⟨g, cap, cur, rfl, hb, hh, r⟩
  · exact .inl h2
  · exact .inr ⟨g, cap, cur, rfl, hb, (hk g (by simp [Value.ownBlock])).trans hh, r⟩
theorem OwnO.not_box (h : OwnO w base e size v n xs) {b : Nat} {T : TypeId} {vs : List Value} (o : Ob w b T vs) (hT : T ≠ e) : blkO v ≠ some b := fun hb => hT (h.type hb o)
theorem OwnO.set (h : OwnO w base e size v n xs) {b : Nat} {T : TypeId} {vs : List Value} (o : Ob w b T vs) (hT : T ≠ e) (u : Value) : OwnO (w.setCell ⟨b, 0, none⟩ u) base e size v n xs :=
  h.keep fun g hg => Below.heap_setCell w ⟨b, 0, none⟩ u g fun e => h.not_box o hT (by rw [hg]; exact congrArg some e)
theorem own_setB (h : w.ownsRow base e size v n xs) {b : Nat} {T : TypeId} {vs : List Value} (o : Ob w b T vs) (hT : e ≠ T) (u : Value) : (w.setCell ⟨b, 0, none⟩ u).ownsRow base e size v n xs :=
  own_keep h fun g hg => Below.heap_setCell w ⟨b, 0, none⟩ u g fun q => o.not_own h hT (by rw [hg]; exact congrArg some q)
end
/-- What lifetimes are made in: the open beginnings and the lifetimes, each in its box. -/
structure LS (w0 w : World) (bo bm : Nat) (uo um : Value) (O : List Int) (M : List Sp) : Prop where
  oo : Ob w bo 259 [uo]
  om : Ob w bm 217 [um]
  ho : OwnIo w w0.heap.size uo O
  hm : OwnSp w w0.heap.size um M
  X : Ext w0 w
  bo' : w0.heap.size ≤ bo
  bm' : w0.heap.size ≤ bm
section
variable {w0 w w1 : World} {bo bm : Nat} {uo um v1 : Value} {O O1 : List Int} {M M1 : List Sp}
theorem LS.ext (h : LS w0 w bo bm uo um O M) (k : Ext w w1) : LS w0 w1 bo bm uo um O M := ⟨h.oo.ext k, h.om.ext k, h.ho.ext k, own_ext h.hm k, h.X.trans k, h.bo', h.bm'⟩
theorem LS.boxO (h : LS w0 w bo bm uo um O M) (hg : w.grownBy w1 (blkO uo)) {b : Nat} {T : TypeId} {vs : List Value} (o : Ob w b T vs) (hT : T ≠ 3) : Ob w1 b T vs := o.grown hg fun e => h.ho.not_box o hT e.symm
theorem LS.boxM (h : LS w0 w bo bm uo um O M) (hg : w.grownBy w1 um.ownBlock) {b : Nat} {T : TypeId} {vs : List Value} (o : Ob w b T vs) (hT : 42 ≠ T) : Ob w1 b T vs := o.grown hg fun e => o.not_own h.hm hT e.symm
theorem LS.ne (h : LS w0 w bo bm uo um O M) : bo ≠ bm := h.oo.ne h.om (by decide)
theorem LS.openApp (h : LS w0 w bo bm uo um O M) (hg : w.grownBy w1 (blkO uo)) (ho1 : OwnIo w1 w0.heap.size v1 O1) : LS w0 (w1.setCell ⟨bo, 0, none⟩ v1) bo bm v1 um O1 M := by
  have o1 := h.boxO hg h.oo (by decide)
  have o2 := h.boxO hg h.om (by decide)
  have hm1 : OwnSp w1 w0.heap.size um M := own_keep h.hm fun g hgm => by
    obtain ⟨cur, hh⟩ := own_heap h.hm hgm
    exact hg.block g (lt_of_block hh) fun e => absurd (h.ho.type e.symm hh) (by decide)
  exact ⟨o1.set 0 _, o2.far _ _ (Ne.symm h.ne), ho1.set o1 (by decide) _, own_setB hm1 o1 (by decide) _, (ext_grown h.X hg fun k hk => (h.ho.lt k hk).1).setCell (p := ⟨bo, 0, none⟩) h.bo' _, h.bo', h.bm'⟩
theorem LS.madeApp (h : LS w0 w bo bm uo um O M) (hg : w.grownBy w1 um.ownBlock) (hm1 : OwnSp w1 w0.heap.size v1 M1) : LS w0 (w1.setCell ⟨bm, 0, none⟩ v1) bo bm uo v1 O M1 := by
  have o1 := h.boxM hg h.oo (by decide)
  have o2 := h.boxM hg h.om (by decide)
  have ho1 : OwnIo w1 w0.heap.size uo O := h.ho.grown hg fun g hgo e => by
    obtain ⟨cur, hh⟩ := own_heap h.hm e.symm
    exact absurd (h.ho.type hgo hh) (by decide)
  exact ⟨o1.far _ _ h.ne, o2.set 0 _, ho1.set o2 (by decide) _, own_setB hm1 o2 (by decide) _, (ext_grown h.X hg fun k hk => (h.hm.lt k hk).1).setCell (p := ⟨bm, 0, none⟩) h.bm' _, h.bo', h.bm'⟩
theorem LS.openCut (h : LS w0 w bo bm uo um O M) (ho1 : OwnIo w w0.heap.size v1 O1) : LS w0 (w.setCell ⟨bo, 0, none⟩ v1) bo bm v1 um O1 M :=
  ⟨h.oo.set 0 _, h.om.far _ _ (Ne.symm h.ne), ho1.set h.oo (by decide) _, own_setB h.hm h.oo (by decide) _, h.X.setCell (p := ⟨bo, 0, none⟩) h.bo' _, h.bo', h.bm'⟩
end
end Go.Proofs.YtiknkcadbaeknaaGreat
set_option linter.unusedVariables false
set_option linter.unusedSimpArgs false
namespace Go.Proofs.YtiknkcadbaeknaaGreat
open Go.RowKit
attribute [local go_sem] GW.cell GW.frozen In.eq_true In.le_true In.ne In.ne' In.ne_add In.ne_add' In.lt_add Upto.le_true Upto.le_add Upto.lt_add
abbrev OwnPp (w : World) (base : Nat) (v : Value) (L : List Ve) : Prop := w.ownsRow base 95 3 v L.length (ec L)
theorem tPc : ElemT Tryz.prog 50 95 (.agg #[.slice none 0 0, .int .i64 0, .int .i64 0]) 3 40 := ElemT.mk' Tryz.underlying50 (by kernel_rfl) rfl (by omega)
theorem own_appP {w : World} {B : Nat} {v : Value} {L M : List Ve} (h : w.ownsRow B 95 3 v (L.length + M.length) (ec L ++ ec M)) : OwnPp w B v (L ++ M) := by
  unfold OwnPp; rw [List.length_append, ec_append]; exact h
/-- Pieces of one's own, with rows of one's own. -/
def OwnPr (w : World) (base : Nat) (v : Value) (L : List Ve) : Prop := OwnPp w base v L ∧ ∀ p ∈ L, Rw w (ob v ++ List.range base) p.1 p.2.1
section
variable {w w' : World} {base : Nat} {v v' : Value} {L M : List Ve}
theorem OwnPr.nil (w : World) (base : Nat) : OwnPr w base (.slice none 0 0) [] := ⟨World.ownsRow_nil _ _ _ _, by simp⟩
theorem OwnPr.ext (h : OwnPr w base v L) (k : Ext w w') : OwnPr w' base v L := ⟨own_ext h.1 k, fun p hp => Sl.ext (h.2 p hp) k⟩
theorem OwnPr.lower {b : Nat} (h : OwnPr w base v L) (hb : b ≤ base) : OwnPr w b v L := ⟨own_base h.1 hb, fun p hp => Sl.less (h.2 p hp) fun k hk => by
  rcases List.mem_append.1 hk with hk | hk
  · exact List.mem_append_left _ hk
  · exact List.mem_append_right _ (List.mem_range.2 (by have := List.mem_range.1 hk; omega))⟩
theorem OwnPr.ew (h : OwnPr w base v L) : Ew w [] v L := ⟨Sl.own h.1 (by simp), fun p hp => Sl.less (h.2 p hp) (by simp)⟩
theorem OwnPr.app (h : OwnPr w base v L) (ho : OwnPp w' base v' (L ++ M)) (hg : w.grownBy w' v.ownBlock) (hv : v'.ownBlock = v.ownBlock ∨ v'.ownBlock = some w.heap.size) (hM : ∀ p ∈ M, ∃ S, Rw w S p.1 p.2.1 ∧ ∀ k ∈ ob v ++ List.range base, k ∈ S) : OwnPr w' base v' (L ++ M) := by
  refine ⟨ho, fun p hp => ?_⟩
  rcases List.mem_append.1 hp with hp | hp
  · exact rw_app (h.2 p hp) (fun k hk => List.mem_append_left _ hk) (fun k hk => List.mem_append_right _ hk) hg hv
  · obtain ⟨S, hS, hk⟩ := hM p hp
    exact rw_app hS (fun k h => hk k (List.mem_append_left _ h)) (fun k h => hk k (List.mem_append_right _ h)) hg hv
end
def pcF (S : List Nat) (r : List Vl) (j : Jp) : Fact := .st (fun u w => ∃ A cp, u = em (.slice A r.length cp) j ∧ Rw w S (.slice A r.length cp) r) (fun _ _ _ h k => by obtain ⟨A, cp, e, h⟩ := h; exact ⟨A, cp, e, Sl.ext h k⟩)
def oneP (S : List Nat) (r : List Vl) (j : Jp) : Fact := .st (fun v w => ∃ u, Sl w [] 3 v 1 (ec1 (u, r, j)) ∧ Rw w S u r) (fun _ _ _ h k => by obtain ⟨u, h1, h2⟩ := h; exact ⟨u, Sl.ext h1 k, Sl.ext h2 k⟩)
theorem buildP1 (A : Option Addr) (n cap : Nat) (x : Jp) (w : World) : (Instr.buildSlice 50 1 #[(0, em (.slice A n cap) x)]).run Tryz.prog w = .ok (.slice (some ⟨w.heap.size, 0, none⟩) 1 1) (w.alloc (.cells #[.slice A n cap, .int .i64 x.1, .int .i64 x.2] 95)) := by
  simp [go_sem]
theorem oneP_new (u : Value) (r : List Vl) (x : Jp) (w : World) : Sl (w.alloc (.cells #[u, .int .i64 x.1, .int .i64 x.2] 95)) [] 3 (.slice (some ⟨w.heap.size, 0, none⟩) 1 1) 1 (ec1 (u, r, x)) :=
  Sl.own (World.ownsRow_lit (base := w.heap.size) (e := 95) (size := 3) w #[u, .int .i64 x.1, .int .i64 x.2] 1 (Nat.le_refl _) (by decide) rfl) (by simp)
/-- A row lies in no box of a slice. -/
theorem rw_box {W : World} {S : List Nat} {v : Value} {r : List Vl} {b : Nat} {T : TypeId} {A : Option Addr} {n cap : Nat} (h : Rw W S v r) (o : Ob W b T [.slice A n cap]) : Rw W (b :: S) v r := by
  obtain ⟨B, k, rfl, h1, h2, h3, h4⟩ := h
  refine ⟨B, k, rfl, h1, h2, h3, ?_⟩
  rcases h4 with h4 | ⟨c, p, e, hcS, hc⟩
  · exact .inl h4
  · rcases r with _ | ⟨x, r⟩
    · exact .inl rfl
    · refine .inr ⟨c, p, e, ?_, hc⟩
      intro hcb
      rcases List.mem_cons.1 hcb with hcb | hcb
      · subst hcb
        have q := hc 0 (.int .i64 x.1) rfl
        rw [cell_of_row W c (p + 0) _ T (0, 0) o] at q
        rcases p with _ | p
        · simp at q
        · simp at q
      · exact hcS hcb
/-- Edges lie in no box of a slice. -/
theorem rw_boxp {W : World} {S : List Nat} {v : Value} {r : List Vl} {b : Nat} {T : TypeId} {A : Option Addr} {n cap : Nat} {u : Value} (h : Rw W S v r) (o : Ob W b T [u]) (hu : u = .slice A n cap) : Rw W (b :: S) v r := by
  subst hu; exact rw_box h o
theorem ew_box {W : World} {S : List Nat} {v : Value} {L : List Ve} {b : Nat} {T : TypeId} {A : Option Addr} {n cap : Nat} (h : Ew W S v L) (o : Ob W b T [.slice A n cap]) : Ew W (b :: S) v L := by
  refine ⟨?_, fun p hp => rw_box (h.2 p hp) o⟩
  obtain ⟨B, k, rfl, h1, h2, h3, h4⟩ := h.1
  refine ⟨B, k, rfl, h1, h2, h3, ?_⟩
  rcases h4 with h4 | ⟨c, p, e, hcS, hc⟩
  · exact .inl h4
  · rcases L with _ | ⟨x, L⟩
    · exact .inl rfl
    · refine .inr ⟨c, p, e, ?_, hc⟩
      intro hcb
      rcases List.mem_cons.1 hcb with hcb | hcb
      · subst hcb
        have q := hc 1 (.int .i64 x.2.2.1) rfl
        rw [cell_of_row W c (p + 1) _ T (0, 0) o] at q
        simp at q
      · exact hcS hcb
/-- The pieces of rows, each with its function. -/
def lifeP (q : List Vl) (f : List Jp) : List Ed := (lifeL f).map fun s => (q, s)
def piecesL (G : List Gp) : List Ed := G.flatMap fun g => lifeP g.1 g.2
theorem piecesL_snoc (G : List Gp) (g : Gp) : piecesL (G ++ [g]) = piecesL G ++ lifeP g.1 g.2 := by simp [piecesL]
theorem lifeL_len (f : List Jp) : ((lifeL f).length : Int) = cntJ f := by unfold lifeL cntJ; rw [spL_length]
theorem piecesL_pre (G : List Gp) (k : Nat) : (piecesL (G.take k)).length ≤ (piecesL G).length := by
  conv => rhs; rw [← List.take_append_drop k G]
  unfold piecesL
  rw [List.flatMap_append, List.length_append]
  omega
/-- What is wrong with edges whose pieces are asked for; they. -/
def pcE (l : List Ed) : Int := if mayE l then (if tabE l then (if 4096 < (piecesL (grp l)).length then 7 else 0) else 20) else 2
def pcR (l : List Ed) : List Ed := if pcE l = 0 then piecesL (grp l) else []
/-- The state in which pieces are appended: what was there before (world W) is left alone, but for the list and its box. -/
structure PS (B0 b4 : Nat) (W wr : World) (mv0 mv : Value) (M : List Ve) : Prop where
  fr : Fr (ob mv0 ++ [b4]) W wr
  ob4 : Ob wr b4 50 [mv]
  own : OwnPr wr B0 mv M
  blk : ∀ k, mv.ownBlock = some k → mv0.ownBlock = some k ∨ W.heap.size ≤ k
theorem PS.keep {B0 b4 : Nat} {W wr w1 w8 : World} {mv0 mv v8 : Value} {M : List Ve} (h : PS B0 b4 W wr mv0 mv M) (hX : Ext wr w1) (hg : w1.grownBy w8 mv.ownBlock) {base e size n : Nat} {v : Value} {xs : List Value} (ho : wr.ownsRow base e size v n xs) (he : e ≠ 95) (hb : e ≠ 50) :
    (w8.setCell ⟨b4, 0, none⟩ v8).ownsRow base e size v n xs := by
  have h1 := own_ext ho hX
  refine own_keep h1 fun g hgo => ?_
  obtain ⟨cur, hh⟩ := own_heap h1 hgo
  have hlt := lt_of_block hh
  have hne : g ≠ b4 := by
    rintro rfl
    have o4 := h.ob4.ext hX
    unfold Ob at o4
    rw [hh] at o4
    injection o4 with o4
    injection o4 with _ e2
    exact hb e2
  rw [Below.heap_setCell w8 ⟨b4, 0, none⟩ v8 g hne]
  refine hg.block g hlt fun e2 => ?_
  obtain ⟨cur2, hh2⟩ := own_heap (own_ext h.own.1 hX) e2.symm
  rw [hh] at hh2
  injection hh2 with hh2
  injection hh2 with _ e3
  exact he e3
theorem PS.app {C0 : Option Addr} {n0 c0 : Nat} {B0 b4 : Nat} {W wr w1 w8 : World} {mv0 mv v8 : Value} {M : List Ve} {p : Ve} {S : List Nat} (h : PS B0 b4 W wr mv0 mv M) (hX : Ext wr w1) (ho : OwnPp w8 B0 v8 (M ++ [p])) (hg : w1.grownBy w8 mv.ownBlock) (hb : v8.ownBlock = mv.ownBlock ∨ v8.ownBlock = some w1.heap.size)
    (hp : Rw w1 S p.1 p.2.1) (hS : ∀ k, k < wr.heap.size → k ∈ S) (hB : B0 ≤ wr.heap.size) (hm : mv = .slice C0 n0 c0) : PS B0 b4 W (w8.setCell ⟨b4, 0, none⟩ v8) mv0 v8 (M ++ [p]) := by
  have hne : mv.ownBlock ≠ some b4 := (h.ob4.ext hX).not_own (own_ext h.own.1 hX) (by decide)
  have h8 : OwnPr w8 B0 v8 (M ++ [p]) := (h.own.ext hX).app ho hg hb fun x hx => by
    obtain rfl := List.mem_singleton.1 hx
    refine ⟨S, hp, fun k hk => hS k ?_⟩
    rcases List.mem_append.1 hk with hk | hk
    · exact (ob_ge h.own.1 k hk).2
    · have := List.mem_range.1 hk; omega
  have o8 : Ob w8 b4 50 [mv] := (h.ob4.ext hX).grown hg (Ne.symm hne)
  have hne8 := o8.not_own ho (by decide)
  have hlt := h.ob4.lt
  refine ⟨?_, o8.set 0 _, ⟨own_setB ho o8 (by decide) _, fun x hx => ?_⟩, fun k hk => ?_⟩
  · refine (((h.fr.then (S' := []) (Fr.of_ext hX) (by simp)).grown hg fun k hk => ?_).setCell ⟨b4, 0, none⟩ _ (.inl (by simp)))
    rcases h.blk k hk with e | e
    · exact .inl (List.mem_append_left _ (by unfold ob; rw [e]; simp))
    · exact .inr e
  · exact Sl.less (Sl.set (rw_boxp (h8.2 x hx) o8 hm) ⟨b4, 0, none⟩ _ (by simp)) (fun y hy => List.mem_cons_of_mem _ hy)
  · rcases hb with e | e
    · rw [e] at hk; exact h.blk k hk
    · rw [e] at hk
      obtain rfl : w1.heap.size = k := Option.some.inj hk
      exact .inr (Nat.le_trans h.fr.size hX.size)
end Go.Proofs.YtiknkcadbaeknaaGreat
