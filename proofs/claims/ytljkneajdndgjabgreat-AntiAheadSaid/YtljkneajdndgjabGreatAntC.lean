/-
  A helper of ours: no claim of its own. Layer 32 (anti): the function of all partners, by the code.
-/
import Derived.Test.YtljkneajdndgjabGreatAntB
import Derived.Sort.LoopGhostIn
set_option linter.unusedVariables false
set_option linter.unusedSimpArgs false
namespace Go.Proofs.YtljkneajdndgjabGreat
open Go.RowKit
attribute [local go_sem] GW.cell GW.frozen In.eq_true In.le_true In.ne In.ne' In.ne_add In.ne_add' In.lt_add Upto.le_true Upto.le_add Upto.lt_add Oper.semAt_some wide_depth wide_fn
/-- A function value is stored as every other value of one cell is. -/
@[local go_sem] theorem run_store_fn (P : Program) (w : World) (a : Addr) (m : Mode) (g : Fn) (cs bs : Array Value) : (store a (.func g cs bs) m).run P w = stored P w a (.func g cs bs) m := run_store P w a _ m rfl
theorem pGo_step {r ws : List Vl} {f : List Jp} {G : List Gp} {k : Nat} {o : List Vl} {g : List Jp} {S : List Jp} (h : G[k]? = some (o, g)) (hz : pE r f ws S o g = 0) : pGo r f ws (G.drop k) S = pGo r f ws (G.drop (k + 1)) (pS r f ws S o g) := by
  obtain ⟨hlt, he⟩ := List.getElem?_eq_some_iff.1 h
  rw [List.drop_eq_getElem_cons hlt, he, pGo, if_pos hz]
theorem pGo_stop {r ws : List Vl} {f : List Jp} {G : List Gp} {k : Nat} {o : List Vl} {g : List Jp} {S : List Jp} (h : G[k]? = some (o, g)) (hz : pE r f ws S o g ≠ 0) : pGo r f ws (G.drop k) S = (pE r f ws S o g, []) := by
  obtain ⟨hlt, he⟩ := List.getElem?_eq_some_iff.1 h
  rw [List.drop_eq_getElem_cons hlt, he, pGo, if_neg hz]
def FbP (bx b : Nat) (_ : World) : Prop := b ≠ bx
theorem FbP.stab (B bx b : Nat) : Stab B (FbP bx b) := Stab.pure _
abbrev IP (r ws : List Vl) (f : List Jp) (vr vf vx fv : Value) (w : World) (b1 b2 b3 b4 b5 b6 b7 B0 : Nat) (G : List Gp) (k : Nat) (W : World) : Prop :=
  ((Ob W b1 33 [vr] ∧ (Ob W b2 39 [vf] ∧ Ob W b3 24 [vx])) ∧ ((Ob W b4 39 [.slice none 0 0] ∧ Ob W b5 27 [.int .i64 0]) ∧ Ob W b7 129 [fv])) ∧ ((∃ vs, ∃ S : List Jp, (Ob W b6 39 [vs] ∧ OwnJ W B0 vs S) ∧ pGo r f ws (G.drop k) S = pGo r f ws G []) ∧ (Ext w W ∧ B0 ≤ W.heap.size))
theorem IP.stab (r ws : List Vl) (f : List Jp) (vr vf vx fv : Value) (w : World) (b1 b2 b3 b4 b5 b6 b7 B0 : Nat) (G : List Gp) (k B : Nat) (hB : w.heap.size ≤ B) : Stab B (IP r ws f vr vf vx fv w b1 b2 b3 b4 b5 b6 b7 B0 G k) :=
  (((Stab.ob _ _ _).and ((Stab.ob _ _ _).and (Stab.ob _ _ _))).and (((Stab.ob _ _ _).and (Stab.ob _ _ _)).and (Stab.ob _ _ _))).and ((Stab.ex fun mv => Stab.ex fun N => ((Stab.ob _ _ _).and (Stab.own _ _ _ _ _ _)).and (Stab.pure _)).and ((Stab.of_ext hB).and ⟨fun A C h e => Nat.le_trans h e.size, fun A l o o' h _ _ _ => by simpa using h⟩))
abbrev IxP (r ws : List Vl) (f : List Jp) (w : World) (b4 b5 : Nat) (G : List Gp) (c : Code) (k : Nat) (W : World) : Prop :=
  (c = .ret ∧ (pGo r f ws G []).2 = []) ∧ ((Ob W b4 39 [.slice none 0 0] ∧ Ob W b5 27 [.int .i64 (pGo r f ws G []).1]) ∧ Ext w W)
theorem IxP.stab (r ws : List Vl) (f : List Jp) (w : World) (b4 b5 : Nat) (G : List Gp) (c : Code) (k B : Nat) (hB : w.heap.size ≤ B) : Stab B (IxP r ws f w b4 b5 G c k) :=
  (Stab.pure _).and (((Stab.ob _ _ _).and (Stab.ob _ _ _)).and (Stab.of_ext hB))
set_option maxHeartbeats 8000000 in
set_option maxRecDepth 100000 in
theorem partners_c (r ws : List Vl) (f : List Jp) (L : List Ve) (hri : ∀ v ∈ r, inW v) (hi : ∀ v ∈ ws, inW v) (hGi : ∀ g ∈ grp (eds L), ∀ v ∈ g.1, inW v) (v vr vf vx : Value) (w : World) (b : Nat) (hr : Rw w [] vr r) (hf : Jw w [] vf f) (hx : Rw w [] vx ws) (hC : Ew w [] v L) (hb : Ob w b 22 [v]) (hz : L.length ≤ 1000000000) (hG : ∀ g ∈ grp (eds L), g.1.length ≤ 1000000) :
    Calls Tryz.prog 55 #[vr, vf, .func (.func 104) #[] #[.pointer (some ⟨b, 0, none⟩)], vx] w fun e w' => ∃ v', e = .returned (.tuple #[v', .int .i64 (pGo r f ws (grp (eds L)) []).1]) ∧ OwnJ w' w.heap.size v' (pGo r f ws (grp (eds L)) []).2 ∧ Ext w w' := by
  have hr' := hide hr
  have hf' := hide hf
  have hx' := hide hx
  obtain ⟨RA, rcap, rfl, -, -, -⟩ := rw_form hr
  obtain ⟨FA, fcap, rfl, -, -, -⟩ := jw_form hf
  obtain ⟨XA, xcap, rfl, -, -, -⟩ := rw_form hx
  clear hr hf hx
  have d1 : Ob (((((((w.alloc (.cells #[(.slice RA r.length rcap)] 33)).alloc (.cells #[(.slice FA f.length fcap)] 39)).alloc (.cells #[(.slice XA ws.length xcap)] 24)).alloc (.cells #[(.slice none 0 0)] 39)).alloc (.cells #[(.int .i64 0)] 27)).alloc (.cells #[(.slice none 0 0)] 39)).alloc (.cells #[(.func (.func 100) #[] #[.pointer (some ⟨w.heap.size, 0, none⟩), .pointer (some ⟨w.heap.size + 1, 0, none⟩), .pointer (some ⟨w.heap.size + 1 + 1, 0, none⟩), .pointer (some ⟨w.heap.size + 1 + 1 + 1 + 1 + 1, 0, none⟩)])] 129)) (w.heap.size) 33 [(.slice RA r.length rcap)] := by
    have h : Ob (((((((w.alloc (.cells #[(.slice RA r.length rcap)] 33)).alloc (.cells #[(.slice FA f.length fcap)] 39)).alloc (.cells #[(.slice XA ws.length xcap)] 24)).alloc (.cells #[(.slice none 0 0)] 39)).alloc (.cells #[(.int .i64 0)] 27)).alloc (.cells #[(.slice none 0 0)] 39)).alloc (.cells #[(.func (.func 100) #[] #[.pointer (some ⟨w.heap.size, 0, none⟩), .pointer (some ⟨w.heap.size + 1, 0, none⟩), .pointer (some ⟨w.heap.size + 1 + 1, 0, none⟩), .pointer (some ⟨w.heap.size + 1 + 1 + 1 + 1 + 1, 0, none⟩)])] 129)) (w).heap.size 33 [(.slice RA r.length rcap)] := (((((((Ob.new w 33 [(.slice RA r.length rcap)]).alloc _).alloc _).alloc _).alloc _).alloc _).alloc _)
    simpa only [World.size_alloc] using h
  have d2 : Ob (((((((w.alloc (.cells #[(.slice RA r.length rcap)] 33)).alloc (.cells #[(.slice FA f.length fcap)] 39)).alloc (.cells #[(.slice XA ws.length xcap)] 24)).alloc (.cells #[(.slice none 0 0)] 39)).alloc (.cells #[(.int .i64 0)] 27)).alloc (.cells #[(.slice none 0 0)] 39)).alloc (.cells #[(.func (.func 100) #[] #[.pointer (some ⟨w.heap.size, 0, none⟩), .pointer (some ⟨w.heap.size + 1, 0, none⟩), .pointer (some ⟨w.heap.size + 1 + 1, 0, none⟩), .pointer (some ⟨w.heap.size + 1 + 1 + 1 + 1 + 1, 0, none⟩)])] 129)) (w.heap.size + 1) 39 [(.slice FA f.length fcap)] := by
    have h : Ob (((((((w.alloc (.cells #[(.slice RA r.length rcap)] 33)).alloc (.cells #[(.slice FA f.length fcap)] 39)).alloc (.cells #[(.slice XA ws.length xcap)] 24)).alloc (.cells #[(.slice none 0 0)] 39)).alloc (.cells #[(.int .i64 0)] 27)).alloc (.cells #[(.slice none 0 0)] 39)).alloc (.cells #[(.func (.func 100) #[] #[.pointer (some ⟨w.heap.size, 0, none⟩), .pointer (some ⟨w.heap.size + 1, 0, none⟩), .pointer (some ⟨w.heap.size + 1 + 1, 0, none⟩), .pointer (some ⟨w.heap.size + 1 + 1 + 1 + 1 + 1, 0, none⟩)])] 129)) ((w.alloc (.cells #[(.slice RA r.length rcap)] 33))).heap.size 39 [(.slice FA f.length fcap)] := ((((((Ob.new (w.alloc (.cells #[(.slice RA r.length rcap)] 33)) 39 [(.slice FA f.length fcap)]).alloc _).alloc _).alloc _).alloc _).alloc _)
    simpa only [World.size_alloc] using h
  have d3 : Ob (((((((w.alloc (.cells #[(.slice RA r.length rcap)] 33)).alloc (.cells #[(.slice FA f.length fcap)] 39)).alloc (.cells #[(.slice XA ws.length xcap)] 24)).alloc (.cells #[(.slice none 0 0)] 39)).alloc (.cells #[(.int .i64 0)] 27)).alloc (.cells #[(.slice none 0 0)] 39)).alloc (.cells #[(.func (.func 100) #[] #[.pointer (some ⟨w.heap.size, 0, none⟩), .pointer (some ⟨w.heap.size + 1, 0, none⟩), .pointer (some ⟨w.heap.size + 1 + 1, 0, none⟩), .pointer (some ⟨w.heap.size + 1 + 1 + 1 + 1 + 1, 0, none⟩)])] 129)) (w.heap.size + 1 + 1) 24 [(.slice XA ws.length xcap)] := by
    have h : Ob (((((((w.alloc (.cells #[(.slice RA r.length rcap)] 33)).alloc (.cells #[(.slice FA f.length fcap)] 39)).alloc (.cells #[(.slice XA ws.length xcap)] 24)).alloc (.cells #[(.slice none 0 0)] 39)).alloc (.cells #[(.int .i64 0)] 27)).alloc (.cells #[(.slice none 0 0)] 39)).alloc (.cells #[(.func (.func 100) #[] #[.pointer (some ⟨w.heap.size, 0, none⟩), .pointer (some ⟨w.heap.size + 1, 0, none⟩), .pointer (some ⟨w.heap.size + 1 + 1, 0, none⟩), .pointer (some ⟨w.heap.size + 1 + 1 + 1 + 1 + 1, 0, none⟩)])] 129)) (((w.alloc (.cells #[(.slice RA r.length rcap)] 33)).alloc (.cells #[(.slice FA f.length fcap)] 39))).heap.size 24 [(.slice XA ws.length xcap)] := (((((Ob.new ((w.alloc (.cells #[(.slice RA r.length rcap)] 33)).alloc (.cells #[(.slice FA f.length fcap)] 39)) 24 [(.slice XA ws.length xcap)]).alloc _).alloc _).alloc _).alloc _)
    simpa only [World.size_alloc] using h
  have d4 : Ob (((((((w.alloc (.cells #[(.slice RA r.length rcap)] 33)).alloc (.cells #[(.slice FA f.length fcap)] 39)).alloc (.cells #[(.slice XA ws.length xcap)] 24)).alloc (.cells #[(.slice none 0 0)] 39)).alloc (.cells #[(.int .i64 0)] 27)).alloc (.cells #[(.slice none 0 0)] 39)).alloc (.cells #[(.func (.func 100) #[] #[.pointer (some ⟨w.heap.size, 0, none⟩), .pointer (some ⟨w.heap.size + 1, 0, none⟩), .pointer (some ⟨w.heap.size + 1 + 1, 0, none⟩), .pointer (some ⟨w.heap.size + 1 + 1 + 1 + 1 + 1, 0, none⟩)])] 129)) (w.heap.size + 1 + 1 + 1) 39 [(.slice none 0 0)] := by
    have h : Ob (((((((w.alloc (.cells #[(.slice RA r.length rcap)] 33)).alloc (.cells #[(.slice FA f.length fcap)] 39)).alloc (.cells #[(.slice XA ws.length xcap)] 24)).alloc (.cells #[(.slice none 0 0)] 39)).alloc (.cells #[(.int .i64 0)] 27)).alloc (.cells #[(.slice none 0 0)] 39)).alloc (.cells #[(.func (.func 100) #[] #[.pointer (some ⟨w.heap.size, 0, none⟩), .pointer (some ⟨w.heap.size + 1, 0, none⟩), .pointer (some ⟨w.heap.size + 1 + 1, 0, none⟩), .pointer (some ⟨w.heap.size + 1 + 1 + 1 + 1 + 1, 0, none⟩)])] 129)) ((((w.alloc (.cells #[(.slice RA r.length rcap)] 33)).alloc (.cells #[(.slice FA f.length fcap)] 39)).alloc (.cells #[(.slice XA ws.length xcap)] 24))).heap.size 39 [(.slice none 0 0)] := ((((Ob.new (((w.alloc (.cells #[(.slice RA r.length rcap)] 33)).alloc (.cells #[(.slice FA f.length fcap)] 39)).alloc (.cells #[(.slice XA ws.length xcap)] 24)) 39 [(.slice none 0 0)]).alloc _).alloc _).alloc _)
    simpa only [World.size_alloc] using h
  have d5 : Ob (((((((w.alloc (.cells #[(.slice RA r.length rcap)] 33)).alloc (.cells #[(.slice FA f.length fcap)] 39)).alloc (.cells #[(.slice XA ws.length xcap)] 24)).alloc (.cells #[(.slice none 0 0)] 39)).alloc (.cells #[(.int .i64 0)] 27)).alloc (.cells #[(.slice none 0 0)] 39)).alloc (.cells #[(.func (.func 100) #[] #[.pointer (some ⟨w.heap.size, 0, none⟩), .pointer (some ⟨w.heap.size + 1, 0, none⟩), .pointer (some ⟨w.heap.size + 1 + 1, 0, none⟩), .pointer (some ⟨w.heap.size + 1 + 1 + 1 + 1 + 1, 0, none⟩)])] 129)) (w.heap.size + 1 + 1 + 1 + 1) 27 [(.int .i64 0)] := by
    have h : Ob (((((((w.alloc (.cells #[(.slice RA r.length rcap)] 33)).alloc (.cells #[(.slice FA f.length fcap)] 39)).alloc (.cells #[(.slice XA ws.length xcap)] 24)).alloc (.cells #[(.slice none 0 0)] 39)).alloc (.cells #[(.int .i64 0)] 27)).alloc (.cells #[(.slice none 0 0)] 39)).alloc (.cells #[(.func (.func 100) #[] #[.pointer (some ⟨w.heap.size, 0, none⟩), .pointer (some ⟨w.heap.size + 1, 0, none⟩), .pointer (some ⟨w.heap.size + 1 + 1, 0, none⟩), .pointer (some ⟨w.heap.size + 1 + 1 + 1 + 1 + 1, 0, none⟩)])] 129)) (((((w.alloc (.cells #[(.slice RA r.length rcap)] 33)).alloc (.cells #[(.slice FA f.length fcap)] 39)).alloc (.cells #[(.slice XA ws.length xcap)] 24)).alloc (.cells #[(.slice none 0 0)] 39))).heap.size 27 [(.int .i64 0)] := (((Ob.new ((((w.alloc (.cells #[(.slice RA r.length rcap)] 33)).alloc (.cells #[(.slice FA f.length fcap)] 39)).alloc (.cells #[(.slice XA ws.length xcap)] 24)).alloc (.cells #[(.slice none 0 0)] 39)) 27 [(.int .i64 0)]).alloc _).alloc _)
    simpa only [World.size_alloc] using h
  have d6 : Ob (((((((w.alloc (.cells #[(.slice RA r.length rcap)] 33)).alloc (.cells #[(.slice FA f.length fcap)] 39)).alloc (.cells #[(.slice XA ws.length xcap)] 24)).alloc (.cells #[(.slice none 0 0)] 39)).alloc (.cells #[(.int .i64 0)] 27)).alloc (.cells #[(.slice none 0 0)] 39)).alloc (.cells #[(.func (.func 100) #[] #[.pointer (some ⟨w.heap.size, 0, none⟩), .pointer (some ⟨w.heap.size + 1, 0, none⟩), .pointer (some ⟨w.heap.size + 1 + 1, 0, none⟩), .pointer (some ⟨w.heap.size + 1 + 1 + 1 + 1 + 1, 0, none⟩)])] 129)) (w.heap.size + 1 + 1 + 1 + 1 + 1) 39 [(.slice none 0 0)] := by
    have h : Ob (((((((w.alloc (.cells #[(.slice RA r.length rcap)] 33)).alloc (.cells #[(.slice FA f.length fcap)] 39)).alloc (.cells #[(.slice XA ws.length xcap)] 24)).alloc (.cells #[(.slice none 0 0)] 39)).alloc (.cells #[(.int .i64 0)] 27)).alloc (.cells #[(.slice none 0 0)] 39)).alloc (.cells #[(.func (.func 100) #[] #[.pointer (some ⟨w.heap.size, 0, none⟩), .pointer (some ⟨w.heap.size + 1, 0, none⟩), .pointer (some ⟨w.heap.size + 1 + 1, 0, none⟩), .pointer (some ⟨w.heap.size + 1 + 1 + 1 + 1 + 1, 0, none⟩)])] 129)) ((((((w.alloc (.cells #[(.slice RA r.length rcap)] 33)).alloc (.cells #[(.slice FA f.length fcap)] 39)).alloc (.cells #[(.slice XA ws.length xcap)] 24)).alloc (.cells #[(.slice none 0 0)] 39)).alloc (.cells #[(.int .i64 0)] 27))).heap.size 39 [(.slice none 0 0)] := ((Ob.new (((((w.alloc (.cells #[(.slice RA r.length rcap)] 33)).alloc (.cells #[(.slice FA f.length fcap)] 39)).alloc (.cells #[(.slice XA ws.length xcap)] 24)).alloc (.cells #[(.slice none 0 0)] 39)).alloc (.cells #[(.int .i64 0)] 27)) 39 [(.slice none 0 0)]).alloc _)
    simpa only [World.size_alloc] using h
  have d7 : Ob (((((((w.alloc (.cells #[(.slice RA r.length rcap)] 33)).alloc (.cells #[(.slice FA f.length fcap)] 39)).alloc (.cells #[(.slice XA ws.length xcap)] 24)).alloc (.cells #[(.slice none 0 0)] 39)).alloc (.cells #[(.int .i64 0)] 27)).alloc (.cells #[(.slice none 0 0)] 39)).alloc (.cells #[(.func (.func 100) #[] #[.pointer (some ⟨w.heap.size, 0, none⟩), .pointer (some ⟨w.heap.size + 1, 0, none⟩), .pointer (some ⟨w.heap.size + 1 + 1, 0, none⟩), .pointer (some ⟨w.heap.size + 1 + 1 + 1 + 1 + 1, 0, none⟩)])] 129)) (w.heap.size + 1 + 1 + 1 + 1 + 1 + 1) 129 [(.func (.func 100) #[] #[.pointer (some ⟨w.heap.size, 0, none⟩), .pointer (some ⟨w.heap.size + 1, 0, none⟩), .pointer (some ⟨w.heap.size + 1 + 1, 0, none⟩), .pointer (some ⟨w.heap.size + 1 + 1 + 1 + 1 + 1, 0, none⟩)])] := by
    have h : Ob (((((((w.alloc (.cells #[(.slice RA r.length rcap)] 33)).alloc (.cells #[(.slice FA f.length fcap)] 39)).alloc (.cells #[(.slice XA ws.length xcap)] 24)).alloc (.cells #[(.slice none 0 0)] 39)).alloc (.cells #[(.int .i64 0)] 27)).alloc (.cells #[(.slice none 0 0)] 39)).alloc (.cells #[(.func (.func 100) #[] #[.pointer (some ⟨w.heap.size, 0, none⟩), .pointer (some ⟨w.heap.size + 1, 0, none⟩), .pointer (some ⟨w.heap.size + 1 + 1, 0, none⟩), .pointer (some ⟨w.heap.size + 1 + 1 + 1 + 1 + 1, 0, none⟩)])] 129)) (((((((w.alloc (.cells #[(.slice RA r.length rcap)] 33)).alloc (.cells #[(.slice FA f.length fcap)] 39)).alloc (.cells #[(.slice XA ws.length xcap)] 24)).alloc (.cells #[(.slice none 0 0)] 39)).alloc (.cells #[(.int .i64 0)] 27)).alloc (.cells #[(.slice none 0 0)] 39))).heap.size 129 [(.func (.func 100) #[] #[.pointer (some ⟨w.heap.size, 0, none⟩), .pointer (some ⟨w.heap.size + 1, 0, none⟩), .pointer (some ⟨w.heap.size + 1 + 1, 0, none⟩), .pointer (some ⟨w.heap.size + 1 + 1 + 1 + 1 + 1, 0, none⟩)])] := (Ob.new ((((((w.alloc (.cells #[(.slice RA r.length rcap)] 33)).alloc (.cells #[(.slice FA f.length fcap)] 39)).alloc (.cells #[(.slice XA ws.length xcap)] 24)).alloc (.cells #[(.slice none 0 0)] 39)).alloc (.cells #[(.int .i64 0)] 27)).alloc (.cells #[(.slice none 0 0)] 39)) 129 [(.func (.func 100) #[] #[.pointer (some ⟨w.heap.size, 0, none⟩), .pointer (some ⟨w.heap.size + 1, 0, none⟩), .pointer (some ⟨w.heap.size + 1 + 1, 0, none⟩), .pointer (some ⟨w.heap.size + 1 + 1 + 1 + 1 + 1, 0, none⟩)])])
    simpa only [World.size_alloc] using h
  have hX8 : Ext w (((((((w.alloc (.cells #[(.slice RA r.length rcap)] 33)).alloc (.cells #[(.slice FA f.length fcap)] 39)).alloc (.cells #[(.slice XA ws.length xcap)] 24)).alloc (.cells #[(.slice none 0 0)] 39)).alloc (.cells #[(.int .i64 0)] 27)).alloc (.cells #[(.slice none 0 0)] 39)).alloc (.cells #[(.func (.func 100) #[] #[.pointer (some ⟨w.heap.size, 0, none⟩), .pointer (some ⟨w.heap.size + 1, 0, none⟩), .pointer (some ⟨w.heap.size + 1 + 1, 0, none⟩), .pointer (some ⟨w.heap.size + 1 + 1 + 1 + 1 + 1, 0, none⟩)])] 129)) := (((((((Ext.refl w).alloc _).alloc _).alloc _).alloc _).alloc _).alloc _).alloc _
  obtain ⟨W8, hW8⟩ : ∃ W, W = (((((((w.alloc (.cells #[(.slice RA r.length rcap)] 33)).alloc (.cells #[(.slice FA f.length fcap)] 39)).alloc (.cells #[(.slice XA ws.length xcap)] 24)).alloc (.cells #[(.slice none 0 0)] 39)).alloc (.cells #[(.int .i64 0)] 27)).alloc (.cells #[(.slice none 0 0)] 39)).alloc (.cells #[(.func (.func 100) #[] #[.pointer (some ⟨w.heap.size, 0, none⟩), .pointer (some ⟨w.heap.size + 1, 0, none⟩), .pointer (some ⟨w.heap.size + 1 + 1, 0, none⟩), .pointer (some ⟨w.heap.size + 1 + 1 + 1 + 1 + 1, 0, none⟩)])] 129)) := ⟨_, rfl⟩
  rw [← hW8] at d1 d2 d3 d4 d5 d6 d7 hX8
  refine calls_marks Tryz.func55 rfl ?_
  simp only [Tryz.ntmps55, List.size_toArray, List.length_cons, List.length_nil, Nat.reduceAdd, Nat.reduceSub, Array.replicate_succ, Array.replicate_zero, List.push_toArray, List.append_toArray, List.nil_append, List.cons_append]
  go_wp2_with fail
  rw [← hW8]
  clear hW8
  generalize h7 : w.heap.size + 1 + 1 + 1 + 1 + 1 + 1 = b7 at *
  generalize h6 : w.heap.size + 1 + 1 + 1 + 1 + 1 = b6 at *
  generalize h5 : w.heap.size + 1 + 1 + 1 + 1 = b5 at *
  generalize h4 : w.heap.size + 1 + 1 + 1 = b4 at *
  generalize h3 : w.heap.size + 1 + 1 = b3 at *
  generalize h2 : w.heap.size + 1 = b2 at *
  have hb6 : b6 < W8.heap.size := d6.lt
  have n12 : b4 ≠ b5 := by omega
  have n46 : b4 ≠ b6 := by omega
  have n56 : b5 ≠ b6 := by omega
  have n16 : w.heap.size ≠ b6 := by omega
  have n26 : b2 ≠ b6 := by omega
  have n36 : b3 ≠ b6 := by omega
  have n76 : b7 ≠ b6 := by omega
  have g4 : w.heap.size ≤ b4 := by omega
  have g5 : w.heap.size ≤ b5 := by omega
  have g6 : w.heap.size ≤ b6 := by omega
  clear h2 h3 h4 h5 h6 h7
  have hzw := hX8.size
  obtain ⟨P, hP⟩ : ∃ P, P = pGo r f ws (grp (eds L)) [] := ⟨_, rfl⟩
  refine wp_rangeX2 (X := []) (xs := grp (eds L)) rfl (enters_of Tryz.func104 (by kernel_rfl) rfl) (groups_seqx [] L v w W8 b hC hz hG hX8 (hb.ext hX8)) (Ext.refl _) (by omega) (fun x vs W h => h.size) (fun x vs => Hgg.stab x vs)
    (FbP b6) (fun b => FbP.stab _ b6 b) (IP r ws f (.slice RA r.length rcap) (.slice FA f.length fcap) (.slice XA ws.length xcap) (.func (.func 100) #[] #[.pointer (some ⟨w.heap.size, 0, none⟩), .pointer (some ⟨b2, 0, none⟩), .pointer (some ⟨b3, 0, none⟩), .pointer (some ⟨b6, 0, none⟩)]) w w.heap.size b2 b3 b4 b5 b6 b7 W8.heap.size (grp (eds L)))
    (fun k A o ⟨_, ⟨mv, N, ⟨o1, _⟩, _⟩, _⟩ => by have := o1.lt; show A.heap.size ≠ b6; omega)
    (IxP r ws f w b4 b5 (grp (eds L)))
    (fun k => IP.stab _ _ _ _ _ _ _ w _ _ _ _ _ _ _ _ _ k _ hzw)
    (fun c k => IxP.stab _ _ _ w _ _ _ c k _ hzw)
    ⟨⟨⟨d1, d2, d3⟩, ⟨d4, d5⟩, d7⟩, ⟨_, [], ⟨d6, World.ownsRow_nil _ _ _ _⟩, rfl⟩, hX8, Nat.le_refl _⟩
    (fun k x vs a' _ => ∃ ro fo, vs = #[ro, fo] ∧ a' = { tmps := #[.slice RA r.length rcap, .slice FA f.length fcap, .func (.func 104) #[] #[.pointer (some ⟨b, 0, none⟩)], .slice XA ws.length xcap, .pointer (some ⟨w.heap.size, 0, none⟩), .pointer (some ⟨b2, 0, none⟩), undef, .pointer (some ⟨b3, 0, none⟩), .pointer (some ⟨b4, 0, none⟩), .pointer (some ⟨b5, 0, none⟩), .pointer (some ⟨b6, 0, none⟩), .pointer (some ⟨b7, 0, none⟩), ro, fo, undef, (.func (.func 100) #[] #[.pointer (some ⟨w.heap.size, 0, none⟩), .pointer (some ⟨b2, 0, none⟩), .pointer (some ⟨b3, 0, none⟩), .pointer (some ⟨b6, 0, none⟩)]), .func (.func 104) #[] #[.pointer (some ⟨b, 0, none⟩)], ro, fo, undef, undef, undef, undef, undef, undef, undef, undef], defers := [] })
    (fun k x vs a' => Stab.pure _) ?assign ?body ?done ?stop
  case assign =>
    rintro LL k x vs W K _ ⟨ro, fo, rfl, -, -⟩ hK
    gi_wp2
    exact hK _ _ (Ext.refl _) ⟨ro, fo, rfl, rfl⟩
  case body =>
    rintro LL k x vs a' W hxk ⟨⟨⟨p1, p2, p3⟩, ⟨p4, p5⟩, p7⟩, ⟨vs0, S, ⟨p6, hO⟩, hgo⟩, hXk, h1W⟩ ⟨ro', fo', e', hr2, hf2⟩ ⟨ro, fo, rfl, rfl⟩
    obtain ⟨rfl, rfl⟩ : ro = ro' ∧ fo = fo' := by simpa using e'
    obtain ⟨q, J⟩ := x
    have hqi := hGi (q, J) (List.mem_of_getElem? hxk)
    simp only at hr2 hf2 hqi
    have hex := hide (examine_c r q ws f J S hri hqi hi (.slice RA r.length rcap) (.slice FA f.length fcap) ro fo (.slice XA ws.length xcap) vs0 W w.heap.size b2 b3 b6 W8.heap.size (Sl.ext hr'.out hXk) (Sl.ext hf'.out hXk) (Sl.own hr2 (by simp)) (own_jw hf2 (by simp)) (Sl.ext hx'.out hXk) hO p1 p2 p3 p6 h1W hb6)
    have q7 := hide (p7.cell 0 rfl)
    have p1' := hide p1
    have p2' := hide p2
    have p3' := hide p3
    have p4' := hide p4
    have p5' := hide p5
    have p6' := hide p6
    have p7' := hide p7
    have hXk' := hide hXk
    obtain ⟨RO, rocap, rfl⟩ := own_form hr2
    obtain ⟨FO, focap, rfl⟩ := own_form hf2
    clear hr2 hf2 hqi p1 p2 p3 p4 p5 p6 p7 hO hXk
    obtain ⟨E, hE⟩ : ∃ E, E = pE r f ws S q J := ⟨_, rfl⟩
    obtain ⟨R, hR⟩ : ∃ R, R = pS r f ws S q J := ⟨_, rfl⟩
    rw [← hE, ← hR] at hex
    have k7 := q7.out
    by_cases hE0 : E = 0
    · have hst := hide (pGo_step hxk (by rw [← hE]; exact hE0))
      rw [← hR] at hst
      subst hE0
      clear hE hR hxk
      replace hgo := hide hgo
      gi_wp2_with (gi_at_call 100; refine (in_round hex.out).mono ?_; rintro ee W3 ⟨vs', rfl, o6, hO6, hF⟩; replace hF := hide hF; replace o6 := hide o6; replace hO6 := hide hO6)
      have hF := hF.out
      refine ⟨keeps_fr hF (fun y hy => ?_), belX_fr hF (Nat.le_trans hzw h1W) (fun y hy => .inl (by rw [List.mem_singleton.1 hy]; exact g6)), ⟨⟨⟨p1'.out.fr hF (by simpa using n16), p2'.out.fr hF (by simpa using n26), p3'.out.fr hF (by simpa using n36)⟩, ⟨p4'.out.fr hF (by simpa using n46), p5'.out.fr hF (by simpa using n56)⟩, p7'.out.fr hF (by simpa using n76)⟩, ⟨vs', R, ⟨o6.out, hO6.out⟩, by rw [← hst.out]; exact hgo.out⟩, ext_fr hXk'.out hF (by simpa using g6), Nat.le_trans h1W hF.size⟩, ?_⟩
      · obtain rfl := List.mem_singleton.1 hy; exact ⟨_, _, p6'.out⟩
      · rintro y T us hy oy
        have hy' : y ≠ b6 := hy
        exact ⟨hy, oy.fr hF (by simpa using hy')⟩
    · have hst := pGo_stop hxk (by rw [← hE]; exact hE0)
      rw [← hE, hgo, ← hP] at hst
      replace hst := hide hst
      have hE' : (E != 0) = true := by simpa using hE0
      clear hE hR hxk hgo
      gi_wp2_with (gi_at_call 100; refine (in_round hex.out).mono ?_; rintro ee W3 ⟨vs', rfl, o6, hO6, hF⟩; have y4 := p4'.out.fr hF (by simpa using n46); have y5 := p5'.out.fr hF (by simpa using n56); have k4 := y4.cell 0 rfl; have k5 := y5.cell 0 rfl; have fr4 := y4.free 0; have fr5 := y5.free 0; have l4 := y4.lt; have l5 := y5.lt; haveI : In b4 W3 := ⟨l4⟩; haveI : In b5 W3 := ⟨l5⟩; replace hF := hide hF; replace y4 := hide y4; replace y5 := hide y5; clear o6 hO6)
      have z4 : Ob ((W3.setCell ⟨b4, 0, none⟩ (.slice none 0 0)).setCell ⟨b5, 0, none⟩ (.int .i64 E)) b4 39 [.slice none 0 0] := (y4.out.set 0 _).far _ _ n12
      have z5 : Ob ((W3.setCell ⟨b4, 0, none⟩ (.slice none 0 0)).setCell ⟨b5, 0, none⟩ (.int .i64 E)) b5 27 [.int .i64 E] := (y5.out.far ⟨b4, 0, none⟩ _ (Ne.symm n12)).set 0 _
      have hmem : ∀ y ∈ [b4, b5, b6], ∃ T vs, Ob W y T vs := by
        intro y hy
        simp only [List.mem_cons, List.not_mem_nil, or_false] at hy
        rcases hy with rfl | rfl | rfl
        · exact ⟨_, _, p4'.out⟩
        · exact ⟨_, _, p5'.out⟩
        · exact ⟨_, _, p6'.out⟩
      have hF4 : Fr [b4, b5, b6] W ((W3.setCell ⟨b4, 0, none⟩ (.slice none 0 0)).setCell ⟨b5, 0, none⟩ (.int .i64 E)) := (((hF.out.more (S' := [b4, b5, b6]) (fun y _ hy => by simp only [List.mem_cons, List.not_mem_nil, or_false] at hy ⊢; omega)).setCell ⟨b4, 0, none⟩ _ (.inl (by simp))).setCell ⟨b5, 0, none⟩ _ (.inl (by simp)))
      refine ⟨keeps_fr (S := [b4, b5, b6]) hF4 hmem, ⟨rfl, by rw [← hP, hst.out]⟩, ⟨z4, by rw [← hP, hst.out]; exact z5⟩, ext_fr hXk'.out hF4 (fun y hy => ?_)⟩
      simp only [List.mem_cons, List.not_mem_nil, or_false] at hy
      omega
  case done =>
    rintro D W hD ⟨⟨⟨p1, p2, p3⟩, ⟨p4, p5⟩, p7⟩, ⟨vs0, S, ⟨p6, hO⟩, hgo⟩, hXk, h1W⟩ hK
    rw [List.drop_length, ← hP] at hgo
    have hQ := hide (show pGo r f ws (grp (eds L)) [] = (0, S) by rw [← hP, ← hgo]; rfl)
    clear hgo hP
    have q6 := p6.cell 0 rfl
    have y4 := p4
    have y5 := p5
    have k4 := y4.cell 0 rfl
    have k5 := y5.cell 0 rfl
    have fr4 := y4.free 0
    have fr5 := y5.free 0
    have l4 := y4.lt
    have l5 := y5.lt
    have l6 := p6.lt
    haveI : In b4 W := ⟨l4⟩
    haveI : In b5 W := ⟨l5⟩
    haveI : In b6 W := ⟨l6⟩
    have hO0 := hide hO
    obtain ⟨MA, mcap, rfl⟩ := own_form hO
    replace y4 := hide y4
    replace y5 := hide y5
    have hXk' := hide hXk
    have hK' := hide hK
    clear hO p1 p2 p3 p4 p5 p6 p7
    go_wp2_with fail
    have z4 : Ob ((W.setCell ⟨b4, 0, none⟩ (.slice MA S.length mcap)).setCell ⟨b5, 0, none⟩ (.int .i64 0)) b4 39 [.slice MA S.length mcap] := (y4.out.set 0 _).far _ _ n12
    have z5 : Ob ((W.setCell ⟨b4, 0, none⟩ (.slice MA S.length mcap)).setCell ⟨b5, 0, none⟩ (.int .i64 0)) b5 27 [.int .i64 0] := (y5.out.far ⟨b4, 0, none⟩ _ (Ne.symm n12)).set 0 _
    have hF2 : Fr [b4, b5] W ((W.setCell ⟨b4, 0, none⟩ (.slice MA S.length mcap)).setCell ⟨b5, 0, none⟩ (.int .i64 0)) := ((Fr.refl [b4, b5] W).setCell ⟨b4, 0, none⟩ _ (.inl (by simp))).setCell ⟨b5, 0, none⟩ _ (.inl (by simp))
    have hin12 : ∀ x ∈ [b4, b5], x < W8.heap.size := by intro x hx; simp only [List.mem_cons, List.not_mem_nil, or_false] at hx; have := d4.lt; have := d5.lt; rcases hx with rfl | rfl <;> assumption
    have hK2 := (KeepsOthers.setCell (W.setCell ⟨b4, 0, none⟩ (.slice MA S.length mcap)) ⟨b5, 0, none⟩ (.int .i64 0)).same D _ ((KeepsOthers.setCell W ⟨b4, 0, none⟩ (.slice MA S.length mcap)).same D _ hK'.out rfl) rfl
    have w4 := (ob_put (o' := .deferred none) hK2 rfl z4).cell 0 rfl
    have w5 := (ob_put (o' := .deferred none) hK2 rfl z5).cell 0 rfl
    have hM2 : OwnJ (((W.setCell ⟨b4, 0, none⟩ (.slice MA S.length mcap)).setCell ⟨b5, 0, none⟩ (.int .i64 0)).putObj D (.deferred none)) W8.heap.size (.slice MA S.length mcap) S :=
      (Stab.own (B := 0) _ _ _ _ _ _).put _ D _ _ (own_fr hO0.out hF2 hin12) (Nat.zero_le _) hK2 rfl
    refine ret_mark hK2 (v := .tuple #[.slice MA S.length mcap, .int .i64 0]) ?_ ⟨_, by rw [hQ.out], by rw [hQ.out]; exact own_base hM2 hzw, put_ext (ext_fr hXk'.out hF2 (fun y hy => by simp only [List.mem_cons, List.not_mem_nil, or_false] at hy; omega)) (by omega) _⟩
    simp [results, Tryz.f55, go_sem, w4, w5]
  case stop =>
    rintro D c k W hD hk ⟨⟨rfl, h4⟩, ⟨p4, p5⟩, hXk⟩ hK
    rw [← hP] at h4 p5
    obtain ⟨E, hE⟩ : ∃ E, E = P.1 := ⟨_, rfl⟩
    rw [← hE] at p5
    have hQ := hide (show pGo r f ws (grp (eds L)) [] = (E, []) by rw [← hP, hE, ← h4])
    clear hP hE h4
    have hK' := hide hK
    go_wp2
    have z4 := (ob_put (o' := .deferred none) hK'.out rfl p4).cell 0 rfl
    have z5 := (ob_put (o' := .deferred none) hK'.out rfl p5).cell 0 rfl
    refine ret_mark hK'.out (v := .tuple #[.slice none 0 0, .int .i64 E]) ?_ ⟨_, by rw [hQ.out], by rw [hQ.out]; exact World.ownsRow_nil _ _ _ _, put_ext hXk (by omega) _⟩
    simp [results, Tryz.f55, go_sem, z4, z5]
end Go.Proofs.YtljkneajdndgjabGreat
