/-
  A helper of ours: no claim of its own. A range over a function, as XRf and XRg have it, where a round may write blocks of a list X that lie below what is ranged over.
-/
import Derived.Test.YtljkneajdndgjabGreatEdgGr
set_option linter.unusedVariables false
set_option linter.unusedSimpArgs false
namespace Go.Proofs.YtljkneajdndgjabGreat
open Go.RowKit
/-- What lies below a place, but in blocks of X, is as it was. -/
structure BelX (B : Nat) (X : List Nat) (w w' : World) : Prop where
  os : w'.os = w.os
  tape : w'.tape = w.tape
  output : w'.output = w.output
  size : w.heap.size ≤ w'.heap.size
  block : ∀ k, k < B → k ∉ X → w'.heap[k]? = w.heap[k]?
theorem BelX.refl (B : Nat) (X : List Nat) (w : World) : BelX B X w w := ⟨rfl, rfl, rfl, Nat.le_refl _, fun _ _ _ => rfl⟩
theorem BelX.of {B : Nat} {X : List Nat} {w w' : World} (h : Below B w w') : BelX B X w w' := ⟨h.os, h.tape, h.output, h.size, fun k hk _ => h.block k hk⟩
theorem BelX.trans {B : Nat} {X : List Nat} {w w' w'' : World} (h : BelX B X w w') (k : BelX B X w' w'') : BelX B X w w'' := ⟨k.os.trans h.os, k.tape.trans h.tape, k.output.trans h.output, Nat.le_trans h.size k.size, fun i hi hx => (k.block i hi hx).trans (h.block i hi hx)⟩
theorem BelX.cell {B : Nat} {X : List Nat} {w w' : World} (h : BelX B X w w') {p : Addr} (hx : p.block ∉ X) (hp : p.block < B) : w'.cell? p = w.cell? p := World.cell?_of_block (h.block _ hp hx)
theorem belX_fr {S X : List Nat} {n₀ : Nat} {W W' : World} (h : Fr S W W') (hn : n₀ ≤ W.heap.size) (hS : ∀ b ∈ S, n₀ ≤ b ∨ b ∈ X) : BelX n₀ X W W' :=
  ⟨h.os, h.tape, h.output, h.size, fun k hk hx => h.block k (by omega) fun hm => (hS k hm).elim (fun h => by omega) hx⟩
theorem belX_ext {n : Nat} {X : List Nat} {W W' w : World} (h : BelX n X W W') (k : Ext W' w) (hn : n ≤ W'.heap.size) : BelX n X W w := h.trans (belX_fr (S := []) (Fr.of_ext k) hn (by simp))
theorem slx_below {w0 W wr : World} {X : List Nat} {sz n : Nat} {v : Value} {xs : List Value} (h : Sl w0 X sz v n xs) (hX : Ext w0 W) (hB : BelX w0.heap.size X W wr) : Sl wr X sz v n xs :=
  h.keep fun b o hx hb => (hB.cell (p := ⟨b, o, none⟩) hx hb).trans (World.cell?_of_block (a := ⟨b, o, none⟩) (hX.block b hb))
/-- What is ranged over: the things that come, what is handed over for each, and a fact on it in the world of its round. A round that goes on keeps what lies below n₀. -/
def SeqsX {β : Type} (P : Program) (n₀ : Nat) (X : List Nat) (g : Nat) (lb : Array Value) (H : β → Array Value → World → Prop) (xs : List β) (w : World) : Prop :=
  ∀ (l : Nat) (J Jx : Nat → World → Prop) (W : World), Ext w W → (∀ k A C, J k A → Ext A C → J k C) → (∀ k A C, Jx k A → Ext A C → Jx k C) →
    (∀ k x vs W1, xs[k]? = some x → J k W1 → H x vs W1 → YieldAt Fence.wide 0 P l vs W1 fun e W' =>
      (e = .returned (.bool true) ∧ J (k + 1) W' ∧ BelX n₀ X W1 W') ∨ (e = .returned (.bool false) ∧ Jx (k + 1) W')) →
    J 0 W → Calls P g (#[.func (.yield l) #[] #[]] ++ lb) W fun e W' => (∃ v, e = .returned v) ∧ (J xs.length W' ∨ ∃ k, k ≤ xs.length ∧ Jx k W')
/-- How the body of a round may be left. -/
def rfPostX (B n₀ : Nat) (X : List Nat) (I : Nat → World → Prop) (Ix : Code → Nat → World → Prop) (k : Nat) (W : World) : Exit → Act → World → Prop
  | .normal, _, W' => KeepsFrom B W W' ∧ BelX n₀ X W W' ∧ I k W'
  | .ret, _, W' => KeepsFrom B W W' ∧ Ix .ret k W'
  | .exit id, _, W' => KeepsFrom B W W' ∧ Ix (.exit id) k W'
  | .goto t, _, W' => KeepsFrom B W W' ∧ Ix (.goto t) k W'
  | .panic _, _, _ => False
  | .outgrown, _, _ => False

section
variable {β : Type} {P : Program} {g : Operand} {ps : Array Tmp} {assign body : Code} {Q : Exit → Act → World → Prop} {a : Act} {w w0 : World} {gf n₀ : Nat} {X : List Nat} {lb : Array Value} {H : β → Array Value → World → Prop} {xs : List β}
/-- The statement 'for .. := range g { .. }'. -/
theorem wp_rangeX (hg : a.eval g = .func (.func gf) #[] lb) (eg : ∀ args w, (callFunc gf args).run P w = .ok (.enter gf args) w)
    (hseq : SeqsX P n₀ X gf lb H xs w0) (hb0 : Ext w0 w) (hn : n₀ ≤ w.heap.size) (hps : ∀ x vs W, H x vs W → vs.size = ps.size) (hH : ∀ x vs, Stab w.heap.size (H x vs))
    (I : Nat → World → Prop) (Ix : Code → Nat → World → Prop) (hI : ∀ k, Stab w.heap.size (I k)) (hIx : ∀ c k, Stab w.heap.size (Ix c k)) (h0 : I 0 w)
    (Ax : Nat → β → Array Value → Act → World → Prop) (hAx : ∀ k x vs a', Stab w.heap.size (Ax k x vs a'))
    (hassign : ∀ (l k : Nat) (x : β) (vs : Array Value) (W : World) (K : Act → World → Prop), I k W → H x vs W → (∀ a' W', Ext W W' → Ax k x vs a' W' → K a' W') →
      assign.wpIn (Fence.wide.inRound l) 0 P (Exit.then K fun _ _ _ => False) { tmps := (ps.zip vs).foldl (fun t (p, v) => t.setIfInBounds p v) a.tmps, defers := [] } W)
    (hbody : ∀ (l k : Nat) (x : β) (vs : Array Value) (a' : Act) (W : World), xs[k]? = some x → I k W → H x vs W → Ax k x vs a' W →
      body.wpIn (Fence.wide.inRound l) 0 P (rfPostX w.heap.size n₀ X I Ix (k + 1) W) a' W)
    (hdone : ∀ (D : Nat) (W : World), w.heap.size ≤ D → I xs.length W → W.heap[D]? = some (.deferred (some [])) → Q .normal { a with defers := { target := .collected D, args := #[] } :: a.defers } W)
    (hstop : ∀ (D : Nat) (c : Code) (k : Nat) (W : World), w.heap.size ≤ D → k ≤ xs.length → Ix c k W → W.heap[D]? = some (.deferred (some [])) → c.wp P Q { a with defers := { target := .collected D, args := #[] } :: a.defers } W) :
    (Code.rangeFunc g ps assign body).wp P Q a w := by
  refine (wpIn_wide (n := 0)).1 (wpIn_rangeFunc fun fn _ => ?_)
  obtain ⟨B, hBe⟩ : ∃ B, B = w.heap.size := ⟨_, rfl⟩
  rw [← hBe] at hn hH hI hIx hAx hbody hdone hstop
  -- the loop's record
  let rc : LoopState → Option Code → Loop := fun st pe => { state := st, pending := pe, fn, tmps := a.tmps, params := ps, assign, body, defers := B }
  have hW1 : ∃ W1, W1 = (w.alloc (.deferred (some []))).alloc (.loop (rc .ready none)) := ⟨_, rfl⟩
  obtain ⟨W1, hW1⟩ := hW1
  have hXW : Ext w W1 := by rw [hW1]; exact ((Ext.refl w).alloc _).alloc _
  have hlp : W1.heap[B + 1]? = some (.loop (rc .ready none)) := by
    have := World.alloc_heap_new (w.alloc (.deferred (some []))) (.loop (rc .ready none))
    rw [World.size_alloc, ← hBe, ← hW1] at this; exact this
  have hdf : W1.heap[B]? = some (.deferred (some [])) := by
    have h1 := World.alloc_heap_new w (.deferred (some []))
    rw [← hBe] at h1
    rw [hW1]
    exact (Below.heap_alloc _ _ _ (lt_of_block h1)).trans h1
  refine ⟨B + 1, [{ target := .collected B, args := #[] }], W1, { target := .fn (.func gf) lb, args := #[.func (.yield (B + 1)) #[] #[]] }, W1, gf, #[.func (.yield (B + 1)) #[] #[]] ++ lb, W1, ?_, ?_, fun _ _ => trivial, ?_, fun h => by simp [Fence.wide] at h, callsIn_wide.2 ?_⟩
  · have h1 := run_enterLoop_outer (P := P) (w := w) fn a.tmps ps assign body
    rw [← hBe] at h1
    rw [hW1]
    exact h1
  · simp only [resolve, hg]
    simp [go_sem]
  · simp [invoke, go_sem, eg]
  have keep : ∀ {A C : World} {k : Nat} {o : Obj}, A.heap[k]? = some o → Ext A C → C.heap[k]? = some o := fun h e => (e.block _ (lt_of_block h)).trans h
  refine (hseq (B + 1) (fun k W => I k W ∧ W.heap[B + 1]? = some (.loop (rc .ready none)) ∧ W.heap[B]? = some (.deferred (some [])))
    (fun k W => ∃ c, Ix c k W ∧ W.heap[B + 1]? = some (.loop (rc .done (some c))) ∧ W.heap[B]? = some (.deferred (some []))) W1 (hb0.trans hXW)
    (fun k A C h e => ⟨(hI k).ext A C h.1 e, keep h.2.1 e, keep h.2.2 e⟩)
    (fun k A C ⟨c, h1, h2, h3⟩ e => ⟨c, (hIx c k).ext A C h1 e, keep h2 e, keep h3 e⟩) ?_ ⟨(hI 0).ext _ _ h0 hXW, hlp, hdf⟩).mono ?_
  · -- a round
    rintro k x vs W hx ⟨hi, hl, hd⟩ hh
    refine ⟨fn, _, assign, body, run_yield hl (hps x vs W hh), roundIn_of_wpIn trivial (hassign _ k x vs W _ hi hh fun a' Wa hXa hax => ?_)⟩
    have hl1 := keep hl hXa
    have hd1 := keep hd hXa
    have hlt := lt_of_block hl1
    refine ⟨_, run_beginRound hl1 rfl, ?_⟩
    obtain ⟨Wb, hWb⟩ : ∃ Wb, Wb = Wa.putObj (B + 1) (.loop { rc .ready none with state := .busy }) := ⟨_, rfl⟩
    have hl2 : Wb.heap[B + 1]? = some (.loop { rc .ready none with state := .busy }) := by rw [hWb]; exact World.putObj_heap_same hlt
    have hd2 : Wb.heap[B]? = some (.deferred (some [])) := by rw [hWb]; exact (World.putObj_heap_other (by omega)).trans hd1
    have lift : ∀ {p : World → Prop}, Stab B p → p Wa → p Wb := fun hp h => by rw [hWb]; exact hp.put _ _ _ _ h (by omega) hl1 rfl
    have hBw : BelX n₀ X W Wb := by
      have h1 : BelX n₀ X W Wa := belX_fr (S := []) (Fr.of_ext hXa) (by have := lt_of_block hl; omega) (by simp)
      rw [hWb]
      exact h1.trans (BelX.of (belowK_b (w := w) (by omega) _ _ _ _ (by omega) hl1 rfl rfl))
    rw [← hWb]
    refine wpIn_mono (hbody _ k x vs a' Wb hx (lift (hI k) ((hI k).ext _ _ hi hXa)) (lift (hH x vs) ((hH x vs).ext _ _ hh hXa)) (lift (hAx k x vs a') hax)) ?_
    have fin : ∀ (jump : Option Code) (W3 : World), KeepsFrom B Wb W3 → ∃ W4, (Instr.endRound (B + 1) jump).run P W3 = .ok (.bool jump.isNone) W4 ∧
        (∀ p : World → Prop, Stab B p → p W3 → p W4) ∧ W4.heap[B + 1]? = some (.loop (rc (if jump.isNone then .ready else .done) jump)) ∧ W4.heap[B]? = some (.deferred (some [])) ∧ BelX n₀ X W3 W4 := by
      intro jump W3 hk
      have hl3 := hk.same _ _ (by omega) hl2 rfl
      have hd3 := hk.same _ _ (Nat.le_refl _) hd2 rfl
      exact ⟨_, run_endRound jump hl3, fun p hp h => hp.put _ _ _ _ h (by omega) hl3 rfl, World.putObj_heap_same (lt_of_block hl3), (World.putObj_heap_other (by omega)).trans hd3, BelX.of (belowK_b (w := w) (by omega) _ _ _ _ (by omega) hl3 rfl rfl)⟩
    rintro e a3 W3 hp
    cases e with
    | normal =>
      obtain ⟨hk3, hb3, hi3⟩ := hp
      obtain ⟨W4, hr, hs, h4, h5, h6⟩ := fin none W3 hk3
      exact ⟨_, W4, hr, .inl ⟨rfl, ⟨hs _ (hI _) hi3, h4, h5⟩, (hBw.trans hb3).trans h6⟩⟩
    | ret =>
      obtain ⟨hk3, hi3⟩ := hp
      obtain ⟨W4, hr, hs, h4, h5, -⟩ := fin (some .ret) W3 hk3
      exact ⟨_, W4, hr, .inr ⟨rfl, .ret, hs _ (hIx _ _) hi3, h4, h5⟩⟩
    | exit id =>
      obtain ⟨hk3, hi3⟩ := hp
      obtain ⟨W4, hr, hs, h4, h5, -⟩ := fin (some (.exit id)) W3 hk3
      exact ⟨_, W4, hr, .inr ⟨rfl, .exit id, hs _ (hIx _ _) hi3, h4, h5⟩⟩
    | goto t =>
      obtain ⟨hk3, hi3⟩ := hp
      obtain ⟨W4, hr, hs, h4, h5, -⟩ := fin (some (.goto t)) W3 hk3
      exact ⟨_, W4, hr, .inr ⟨rfl, .goto t, hs _ (hIx _ _) hi3, h4, h5⟩⟩
    | panic ch => exact hp.elim
    | outgrown => exact hp.elim
  · -- behind it
    rintro e W2 ⟨⟨v, rfl⟩, ⟨hi, hl, hd⟩ | ⟨k, hk, c, hi, hl, hd⟩⟩
    · exact ⟨none, _, run_endLoop hl (by intro h; cases h), hdone B _ (Nat.le_refl _) ((hI _).put _ _ _ _ hi (by omega) hl rfl) ((World.putObj_heap_other (by omega)).trans hd)⟩
    · exact ⟨some c, _, run_endLoop hl (by intro h; cases h), wpIn_wide.2 (hstop B c k _ (Nat.le_refl _) hk ((hIx c k).put _ _ _ _ hi (by omega) hl rfl) ((World.putObj_heap_other (by omega)).trans hd))⟩
end

/-- What is ranged over, where a round tells besides which blocks it leaves alone. -/
def SeqsX2 {β : Type} (P : Program) (n₀ : Nat) (X : List Nat) (g : Nat) (lb : Array Value) (H : β → Array Value → World → Prop) (xs : List β) (w : World) : Prop :=
  ∀ (l : Nat) (J Jx : Nat → World → Prop) (Fb : Nat → World → Prop) (W : World), Ext w W → (∀ k, Stab W.heap.size (J k)) → (∀ k, Stab W.heap.size (Jx k)) → (∀ b, Stab W.heap.size (Fb b)) → (∀ k A o, J k A → Fb A.heap.size (A.alloc o)) →
    (∀ k x vs W1, xs[k]? = some x → J k W1 → H x vs W1 → YieldAt Fence.wide 0 P l vs W1 fun e W' =>
      (e = .returned (.bool true) ∧ J (k + 1) W' ∧ BelX n₀ X W1 W' ∧ KeepsFrom W.heap.size W1 W' ∧ ∀ b T us, Fb b W1 → Ob W1 b T us → Fb b W' ∧ Ob W' b T us) ∨ (e = .returned (.bool false) ∧ Jx (k + 1) W' ∧ KeepsFrom W.heap.size W1 W')) →
    J 0 W → Calls P g (#[.func (.yield l) #[] #[]] ++ lb) W fun e W' => (∃ v, e = .returned v) ∧ (J xs.length W' ∨ ∃ k, k ≤ xs.length ∧ Jx k W')
/-- How the body of a round may be left. -/
def rfPostX2 (B n₀ : Nat) (X : List Nat) (Fb : Nat → World → Prop) (I : Nat → World → Prop) (Ix : Code → Nat → World → Prop) (k : Nat) (W : World) : Exit → Act → World → Prop
  | .normal, _, W' => KeepsFrom B W W' ∧ BelX n₀ X W W' ∧ I k W' ∧ ∀ b T us, Fb b W → Ob W b T us → Fb b W' ∧ Ob W' b T us
  | .ret, _, W' => KeepsFrom B W W' ∧ Ix .ret k W'
  | .exit id, _, W' => KeepsFrom B W W' ∧ Ix (.exit id) k W'
  | .goto t, _, W' => KeepsFrom B W W' ∧ Ix (.goto t) k W'
  | .panic _, _, _ => False
  | .outgrown, _, _ => False
section
variable {β : Type} {P : Program} {g : Operand} {ps : Array Tmp} {assign body : Code} {Q : Exit → Act → World → Prop} {a : Act} {w w0 : World} {gf n₀ : Nat} {X : List Nat} {lb : Array Value} {H : β → Array Value → World → Prop} {xs : List β}
/-- The statement 'for .. := range g { .. }'. -/
theorem wp_rangeX2 (hg : a.eval g = .func (.func gf) #[] lb) (eg : ∀ args w, (callFunc gf args).run P w = .ok (.enter gf args) w)
    (hseq : SeqsX2 P n₀ X gf lb H xs w0) (hb0 : Ext w0 w) (hn : n₀ ≤ w.heap.size) (hps : ∀ x vs W, H x vs W → vs.size = ps.size) (hH : ∀ x vs, Stab w.heap.size (H x vs))
    (Fb : Nat → World → Prop) (hFb : ∀ b, Stab w.heap.size (Fb b)) (I : Nat → World → Prop) (hFn : ∀ k A o, I k A → Fb A.heap.size (A.alloc o)) (Ix : Code → Nat → World → Prop) (hI : ∀ k, Stab w.heap.size (I k)) (hIx : ∀ c k, Stab w.heap.size (Ix c k)) (h0 : I 0 w)
    (Ax : Nat → β → Array Value → Act → World → Prop) (hAx : ∀ k x vs a', Stab w.heap.size (Ax k x vs a'))
    (hassign : ∀ (l k : Nat) (x : β) (vs : Array Value) (W : World) (K : Act → World → Prop), I k W → H x vs W → (∀ a' W', Ext W W' → Ax k x vs a' W' → K a' W') →
      assign.wpIn (Fence.wide.inRound l) 0 P (Exit.then K fun _ _ _ => False) { tmps := (ps.zip vs).foldl (fun t (p, v) => t.setIfInBounds p v) a.tmps, defers := [] } W)
    (hbody : ∀ (l k : Nat) (x : β) (vs : Array Value) (a' : Act) (W : World), xs[k]? = some x → I k W → H x vs W → Ax k x vs a' W →
      body.wpIn (Fence.wide.inRound l) 0 P (rfPostX2 w.heap.size n₀ X Fb I Ix (k + 1) W) a' W)
    (hdone : ∀ (D : Nat) (W : World), w.heap.size ≤ D → I xs.length W → W.heap[D]? = some (.deferred (some [])) → Q .normal { a with defers := { target := .collected D, args := #[] } :: a.defers } W)
    (hstop : ∀ (D : Nat) (c : Code) (k : Nat) (W : World), w.heap.size ≤ D → k ≤ xs.length → Ix c k W → W.heap[D]? = some (.deferred (some [])) → c.wp P Q { a with defers := { target := .collected D, args := #[] } :: a.defers } W) :
    (Code.rangeFunc g ps assign body).wp P Q a w := by
  refine (wpIn_wide (n := 0)).1 (wpIn_rangeFunc fun fn _ => ?_)
  obtain ⟨B, hBe⟩ : ∃ B, B = w.heap.size := ⟨_, rfl⟩
  rw [← hBe] at hn hH hI hIx hAx hFb hbody hdone hstop
  -- the loop's record
  let rc : LoopState → Option Code → Loop := fun st pe => { state := st, pending := pe, fn, tmps := a.tmps, params := ps, assign, body, defers := B }
  have hW1 : ∃ W1, W1 = (w.alloc (.deferred (some []))).alloc (.loop (rc .ready none)) := ⟨_, rfl⟩
  obtain ⟨W1, hW1⟩ := hW1
  have hXW : Ext w W1 := by rw [hW1]; exact ((Ext.refl w).alloc _).alloc _
  have hlp : W1.heap[B + 1]? = some (.loop (rc .ready none)) := by
    have := World.alloc_heap_new (w.alloc (.deferred (some []))) (.loop (rc .ready none))
    rw [World.size_alloc, ← hBe, ← hW1] at this; exact this
  have hdf : W1.heap[B]? = some (.deferred (some [])) := by
    have h1 := World.alloc_heap_new w (.deferred (some []))
    rw [← hBe] at h1
    rw [hW1]
    exact (Below.heap_alloc _ _ _ (lt_of_block h1)).trans h1
  refine ⟨B + 1, [{ target := .collected B, args := #[] }], W1, { target := .fn (.func gf) lb, args := #[.func (.yield (B + 1)) #[] #[]] }, W1, gf, #[.func (.yield (B + 1)) #[] #[]] ++ lb, W1, ?_, ?_, fun _ _ => trivial, ?_, fun h => by simp [Fence.wide] at h, callsIn_wide.2 ?_⟩
  · have h1 := run_enterLoop_outer (P := P) (w := w) fn a.tmps ps assign body
    rw [← hBe] at h1
    rw [hW1]
    exact h1
  · simp only [resolve, hg]
    simp [go_sem]
  · simp [invoke, go_sem, eg]
  have keep : ∀ {A C : World} {k : Nat} {o : Obj}, A.heap[k]? = some o → Ext A C → C.heap[k]? = some o := fun h e => (e.block _ (lt_of_block h)).trans h
  have hWs : W1.heap.size = B + 2 := by rw [hW1]; simp; omega
  have blk : ∀ {A : World} {l k : Nat} {o o' p : Obj}, W1.heap.size ≤ l → A.heap[k]? = some p → k < B + 2 → (A.putObj l o').heap[k]? = some p := fun hl hk hlt => (World.putObj_heap_other (by omega)).trans hk
  refine (hseq (B + 1) (fun k W => I k W ∧ W.heap[B + 1]? = some (.loop (rc .ready none)) ∧ W.heap[B]? = some (.deferred (some [])))
    (fun k W => ∃ c, Ix c k W ∧ W.heap[B + 1]? = some (.loop (rc .done (some c))) ∧ W.heap[B]? = some (.deferred (some []))) Fb W1 (hb0.trans hXW)
    (fun k => ⟨fun A C h e => ⟨(hI k).ext A C h.1 e, keep h.2.1 e, keep h.2.2 e⟩, fun A l o o' h hl ho hc => ⟨(hI k).put A l o o' h.1 (by omega) ho hc, blk (o := o) hl h.2.1 (by omega), blk (o := o) hl h.2.2 (by omega)⟩⟩)
    (fun k => ⟨fun A C ⟨c, h1, h2, h3⟩ e => ⟨c, (hIx c k).ext A C h1 e, keep h2 e, keep h3 e⟩, fun A l o o' ⟨c, h1, h2, h3⟩ hl ho hc => ⟨c, (hIx c k).put A l o o' h1 (by omega) ho hc, blk (o := o) hl h2 (by omega), blk (o := o) hl h3 (by omega)⟩⟩)
    (fun b => (hFb b).mono (by omega)) (fun k A o h => hFn k A o h.1) ?_ ⟨(hI 0).ext _ _ h0 hXW, hlp, hdf⟩).mono ?_
  · -- a round
    rintro k x vs W hx ⟨hi, hl, hd⟩ hh
    refine ⟨fn, _, assign, body, run_yield hl (hps x vs W hh), roundIn_of_wpIn trivial (hassign _ k x vs W _ hi hh fun a' Wa hXa hax => ?_)⟩
    have hl1 := keep hl hXa
    have hd1 := keep hd hXa
    have hlt := lt_of_block hl1
    refine ⟨_, run_beginRound hl1 rfl, ?_⟩
    obtain ⟨Wb, hWb⟩ : ∃ Wb, Wb = Wa.putObj (B + 1) (.loop { rc .ready none with state := .busy }) := ⟨_, rfl⟩
    have hl2 : Wb.heap[B + 1]? = some (.loop { rc .ready none with state := .busy }) := by rw [hWb]; exact World.putObj_heap_same hlt
    have hd2 : Wb.heap[B]? = some (.deferred (some [])) := by rw [hWb]; exact (World.putObj_heap_other (by omega)).trans hd1
    have lift : ∀ {p : World → Prop}, Stab B p → p Wa → p Wb := fun hp h => by rw [hWb]; exact hp.put _ _ _ _ h (by omega) hl1 rfl
    have hBw : BelX n₀ X W Wb := by
      have h1 : BelX n₀ X W Wa := belX_fr (S := []) (Fr.of_ext hXa) (by have := lt_of_block hl; omega) (by simp)
      rw [hWb]
      exact h1.trans (BelX.of (belowK_b (w := w) (by omega) _ _ _ _ (by omega) hl1 rfl rfl))
    have hKw : KeepsFrom W1.heap.size W Wb := by
      rw [hWb]
      exact keepsF_trans (keeps_ext hXa) (keepsF_put (by omega) _)
    have hFw : ∀ b T vs, Fb b W → Ob W b T vs → Fb b Wb ∧ Ob Wb b T vs := fun b T vs hf ho => by
      rw [hWb]
      exact ⟨(hFb b).put _ _ _ _ ((hFb b).ext _ _ hf hXa) (by omega) hl1 rfl, ob_putF hl1 rfl (ho.ext hXa)⟩
    rw [← hWb]
    refine wpIn_mono (hbody _ k x vs a' Wb hx (lift (hI k) ((hI k).ext _ _ hi hXa)) (lift (hH x vs) ((hH x vs).ext _ _ hh hXa)) (lift (hAx k x vs a') hax)) ?_
    have fin : ∀ (jump : Option Code) (W3 : World), KeepsFrom B Wb W3 → ∃ W4, (Instr.endRound (B + 1) jump).run P W3 = .ok (.bool jump.isNone) W4 ∧
        (∀ p : World → Prop, Stab B p → p W3 → p W4) ∧ W4.heap[B + 1]? = some (.loop (rc (if jump.isNone then .ready else .done) jump)) ∧ W4.heap[B]? = some (.deferred (some [])) ∧ BelX n₀ X W3 W4 ∧ KeepsFrom W1.heap.size W3 W4 ∧ (∀ b T vs, Fb b W3 → Ob W3 b T vs → Fb b W4 ∧ Ob W4 b T vs) := by
      intro jump W3 hk
      have hl3 := hk.same _ _ (by omega) hl2 rfl
      have hd3 := hk.same _ _ (Nat.le_refl _) hd2 rfl
      exact ⟨_, run_endRound jump hl3, fun p hp h => hp.put _ _ _ _ h (by omega) hl3 rfl, World.putObj_heap_same (lt_of_block hl3), (World.putObj_heap_other (by omega)).trans hd3, BelX.of (belowK_b (w := w) (by omega) _ _ _ _ (by omega) hl3 rfl rfl), keepsF_put (by omega) _, fun b T vs hf ho => ⟨(hFb b).put _ _ _ _ hf (by omega) hl3 rfl, ob_putF hl3 rfl ho⟩⟩
    rintro e a3 W3 hp
    cases e with
    | normal =>
      obtain ⟨hk3, hb3, hi3, hf3⟩ := hp
      obtain ⟨W4, hr, hs, h4, h5, h6, h7, h8⟩ := fin none W3 hk3
      exact ⟨_, W4, hr, .inl ⟨rfl, ⟨hs _ (hI _) hi3, h4, h5⟩, (hBw.trans hb3).trans h6, keepsF_trans (keepsF_trans hKw (keepsF_mono hk3 (by omega))) h7, fun b T vs hf ho => by
        obtain ⟨f1, o1⟩ := hFw b T vs hf ho
        obtain ⟨f2, o2⟩ := hf3 b T vs f1 o1
        exact h8 b T vs f2 o2⟩⟩
    | ret =>
      obtain ⟨hk3, hi3⟩ := hp
      obtain ⟨W4, hr, hs, h4, h5, -, h7, -⟩ := fin (some .ret) W3 hk3
      exact ⟨_, W4, hr, .inr ⟨rfl, ⟨.ret, hs _ (hIx _ _) hi3, h4, h5⟩, keepsF_trans (keepsF_trans hKw (keepsF_mono hk3 (by omega))) h7⟩⟩
    | exit id =>
      obtain ⟨hk3, hi3⟩ := hp
      obtain ⟨W4, hr, hs, h4, h5, -, h7, -⟩ := fin (some (.exit id)) W3 hk3
      exact ⟨_, W4, hr, .inr ⟨rfl, ⟨.exit id, hs _ (hIx _ _) hi3, h4, h5⟩, keepsF_trans (keepsF_trans hKw (keepsF_mono hk3 (by omega))) h7⟩⟩
    | goto t =>
      obtain ⟨hk3, hi3⟩ := hp
      obtain ⟨W4, hr, hs, h4, h5, -, h7, -⟩ := fin (some (.goto t)) W3 hk3
      exact ⟨_, W4, hr, .inr ⟨rfl, ⟨.goto t, hs _ (hIx _ _) hi3, h4, h5⟩, keepsF_trans (keepsF_trans hKw (keepsF_mono hk3 (by omega))) h7⟩⟩
    | panic ch => exact hp.elim
    | outgrown => exact hp.elim
  · -- behind it
    rintro e W2 ⟨⟨v, rfl⟩, ⟨hi, hl, hd⟩ | ⟨k, hk, c, hi, hl, hd⟩⟩
    · exact ⟨none, _, run_endLoop hl (by intro h; cases h), hdone B _ (Nat.le_refl _) ((hI _).put _ _ _ _ hi (by omega) hl rfl) ((World.putObj_heap_other (by omega)).trans hd)⟩
    · exact ⟨some c, _, run_endLoop hl (by intro h; cases h), wpIn_wide.2 (hstop B c k _ (Nat.le_refl _) hk ((hIx c k).put _ _ _ _ hi (by omega) hl rfl) ((World.putObj_heap_other (by omega)).trans hd))⟩
end

end Go.Proofs.YtljkneajdndgjabGreat
