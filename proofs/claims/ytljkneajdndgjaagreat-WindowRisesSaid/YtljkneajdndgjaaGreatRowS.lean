/-
  A helper of ours: no claim of its own. Layer 6 (row): rows as lists of values, their order, their cells. No program in it.
-/
import Derived.Test.YtljkneajdndgjaaGreatRx
import Derived.Test.YtljkneajdndgjaaGreatRows
import Derived.Test.YtljkneajdndgjaaGreatMem
set_option linter.unusedVariables false
set_option linter.unusedSimpArgs false
namespace Go.Proofs.YtljkneajdndgjaaGreat
open Go.RowKit
/-- A fact stays where a cell of a later block of windows is turned. -/
def Cls (N : Nat) (p : World → Prop) : Prop := ∀ A b o u vs, p A → N ≤ b → Ob A b 82 vs → p (A.setCell ⟨b, o, none⟩ u)
/-- Later blocks stay, but those of copies. -/
def Qk (N : Nat) (W W' : World) : Prop := ∀ b T us, N ≤ b → T ≠ 56 → Ob W b T us → Ob W' b T us
theorem Qk.trans {N : Nat} {A B C : World} (h : Qk N A B) (k : Qk N B C) : Qk N A C := fun b T us hb hT ho => k b T us hb hT (h b T us hb hT ho)
theorem Qk.of_ext {N : Nat} {A B : World} (h : Ext A B) : Qk N A B := fun b T us _ _ ho => ho.ext h
theorem Qk.mono {N M : Nat} {A B : World} (h : Qk N A B) (hM : N ≤ M) : Qk M A B := fun b T us hb hT ho => h b T us (Nat.le_trans hM hb) hT ho
theorem Qk.put {N l : Nat} {A : World} {o o' : Obj} (ho : A.heap[l]? = some o) (hc : o.isCells = false) : Qk N A (A.putObj l o') := fun b T us _ _ h => ob_putF ho hc h
/-- What is ranged over: J tells what it reads (Kp), and stays where its boxes are turned. -/
def SeqsK {β : Type} (Kp : World → Prop) (P : Program) (g : Nat) (lb : Array Value) (H : β → Array Value → World → Prop) (xs : List β) (w : World) : Prop :=
  ∀ (l : Nat) (J Jx : Nat → World → Prop) (W : World), Ext w W → (∀ k, Stab W.heap.size (J k)) → (∀ k, Stab W.heap.size (Jx k)) → (∀ k, Cls W.heap.size (J k)) → (∀ k A, J k A → Kp A) →
    (∀ k x vs W1, xs[k]? = some x → J k W1 → H x vs W1 → YieldAt Fence.wide 0 P l vs W1 fun e W' =>
      (e = .returned (.bool true) ∧ J (k + 1) W' ∧ KeepsFrom W.heap.size W1 W' ∧ Qk W.heap.size W1 W') ∨ (e = .returned (.bool false) ∧ Jx (k + 1) W' ∧ KeepsFrom W.heap.size W1 W')) →
    J 0 W → Calls P g (#[.func (.yield l) #[] #[]] ++ lb) W fun e W' => (∃ v, e = .returned v) ∧ (J xs.length W' ∨ ∃ k, k ≤ xs.length ∧ Jx k W')
/-- How the body of a round may be left. -/
def rfPostK (B : Nat) (I : Nat → World → Prop) (Ix : Code → Nat → World → Prop) (k : Nat) (W : World) : Exit → Act → World → Prop
  | .normal, _, W' => KeepsFrom B W W' ∧ I k W' ∧ Qk B W W'
  | .ret, _, W' => KeepsFrom B W W' ∧ Ix .ret k W'
  | .exit id, _, W' => KeepsFrom B W W' ∧ Ix (.exit id) k W'
  | .goto t, _, W' => KeepsFrom B W W' ∧ Ix (.goto t) k W'
  | .panic _, _, _ => False
  | .outgrown, _, _ => False
section
variable {β : Type} {P : Program} {g : Operand} {ps : Array Tmp} {assign body : Code} {Q : Exit → Act → World → Prop} {a : Act} {w w0 : World} {gf : Nat} {Kp : World → Prop} {lb : Array Value} {H : β → Array Value → World → Prop} {xs : List β}
/-- The statement 'for .. := range g { .. }'. -/
theorem wp_rangeK (hg : a.eval g = .func (.func gf) #[] lb) (eg : ∀ args w, (callFunc gf args).run P w = .ok (.enter gf args) w)
    (hseq : SeqsK Kp P gf lb H xs w0) (hb0 : Ext w0 w) (hps : ∀ x vs W, H x vs W → vs.size = ps.size) (hH : ∀ x vs, Stab w.heap.size (H x vs))
    (I : Nat → World → Prop) (hKp : ∀ k A, I k A → Kp A) (hCl : ∀ k, Cls w.heap.size (I k)) (Ix : Code → Nat → World → Prop) (hI : ∀ k, Stab w.heap.size (I k)) (hIx : ∀ c k, Stab w.heap.size (Ix c k)) (h0 : I 0 w)
    (Ax : Nat → β → Array Value → Act → World → Prop) (hAx : ∀ k x vs a', Stab w.heap.size (Ax k x vs a'))
    (hassign : ∀ (l k : Nat) (x : β) (vs : Array Value) (W : World) (K : Act → World → Prop), I k W → H x vs W → (∀ a' W', Ext W W' → Ax k x vs a' W' → K a' W') →
      assign.wpIn (Fence.wide.inRound l) 0 P (Exit.then K fun _ _ _ => False) { tmps := (ps.zip vs).foldl (fun t (p, v) => t.setIfInBounds p v) a.tmps, defers := [] } W)
    (hbody : ∀ (l k : Nat) (x : β) (vs : Array Value) (a' : Act) (W : World), xs[k]? = some x → I k W → H x vs W → Ax k x vs a' W →
      body.wpIn (Fence.wide.inRound l) 0 P (rfPostK w.heap.size I Ix (k + 1) W) a' W)
    (hdone : ∀ (D : Nat) (W : World), w.heap.size ≤ D → I xs.length W → W.heap[D]? = some (.deferred (some [])) → Q .normal { a with defers := { target := .collected D, args := #[] } :: a.defers } W)
    (hstop : ∀ (D : Nat) (c : Code) (k : Nat) (W : World), w.heap.size ≤ D → k ≤ xs.length → Ix c k W → W.heap[D]? = some (.deferred (some [])) → c.wp P Q { a with defers := { target := .collected D, args := #[] } :: a.defers } W) :
    (Code.rangeFunc g ps assign body).wp P Q a w := by
  refine (wpIn_wide (n := 0)).1 (wpIn_rangeFunc fun fn _ => ?_)
  obtain ⟨B, hBe⟩ : ∃ B, B = w.heap.size := ⟨_, rfl⟩
  rw [← hBe] at hH hI hIx hAx hCl hbody hdone hstop
  -- the loop's record
  let rc : LoopState → Option Code → Loop := fun st pe => { state := st, pending := pe, fn, tmps := a.tmps, params := ps, assign, body, defers := B }
  have hW1 : ∃ W1, W1 = (w.alloc (.deferred (some []))).alloc (.loop (rc .ready none)) := ⟨_, rfl⟩
  obtain ⟨W1, hW1⟩ := hW1
  have hXW : Ext w W1 := by rw [hW1]; exact ((Ext.refl w).alloc _).alloc _
  have hlp : W1.heap[B + 1]? = some (.loop (rc .ready none)) := by
    have := World.alloc_heap_new (w.alloc (.deferred (some []))) (.loop (rc .ready none))
    rw [World.size_alloc, ← hBe, ← hW1] at this; exact this
  have hdf : W1.heap[B]? = some (.deferred (some [])) := by
    have h1 := World.alloc_heap_new w (.deferred (some []))
    rw [← hBe] at h1
    rw [hW1]
    exact (Below.heap_alloc _ _ _ (lt_of_block h1)).trans h1
  refine ⟨B + 1, [{ target := .collected B, args := #[] }], W1, { target := .fn (.func gf) lb, args := #[.func (.yield (B + 1)) #[] #[]] }, W1, gf, #[.func (.yield (B + 1)) #[] #[]] ++ lb, W1, ?_, ?_, fun _ _ => trivial, ?_, fun h => by simp [Fence.wide] at h, callsIn_wide.2 ?_⟩
  · have h1 := run_enterLoop_outer (P := P) (w := w) fn a.tmps ps assign body
    rw [← hBe] at h1
    rw [hW1]
    exact h1
  · simp only [resolve, hg]
    simp [go_sem]
  · simp [invoke, go_sem, eg]
  have keep : ∀ {A C : World} {k : Nat} {o : Obj}, A.heap[k]? = some o → Ext A C → C.heap[k]? = some o := fun h e => (e.block _ (lt_of_block h)).trans h
  have hWs : W1.heap.size = B + 2 := by rw [hW1]; simp; omega
  have setk : ∀ {A : World} {b k : Nat} {T : TypeId} {vs : List Value} {o : Obj} {p : Nat} {u : Value}, A.heap[k]? = some o → Ob A b T vs → b ≠ k → (A.setCell ⟨b, p, none⟩ u).heap[k]? = some o := fun hk _ hne => (Below.heap_setCell _ ⟨_, _, none⟩ _ _ (Ne.symm hne)).trans hk
  have blk : ∀ {A : World} {l k : Nat} {o o' p : Obj}, W1.heap.size ≤ l → A.heap[k]? = some p → k < B + 2 → (A.putObj l o').heap[k]? = some p := fun hl hk hlt => (World.putObj_heap_other (by omega)).trans hk
  refine (hseq (B + 1) (fun k W => I k W ∧ W.heap[B + 1]? = some (.loop (rc .ready none)) ∧ W.heap[B]? = some (.deferred (some [])))
    (fun k W => ∃ c, Ix c k W ∧ W.heap[B + 1]? = some (.loop (rc .done (some c))) ∧ W.heap[B]? = some (.deferred (some []))) W1 (hb0.trans hXW)
    (fun k => ⟨fun A C h e => ⟨(hI k).ext A C h.1 e, keep h.2.1 e, keep h.2.2 e⟩, fun A l o o' h hl ho hc => ⟨(hI k).put A l o o' h.1 (by omega) ho hc, blk (o := o) hl h.2.1 (by omega), blk (o := o) hl h.2.2 (by omega)⟩⟩)
    (fun k => ⟨fun A C ⟨c, h1, h2, h3⟩ e => ⟨c, (hIx c k).ext A C h1 e, keep h2 e, keep h3 e⟩, fun A l o o' ⟨c, h1, h2, h3⟩ hl ho hc => ⟨c, (hIx c k).put A l o o' h1 (by omega) ho hc, blk (o := o) hl h2 (by omega), blk (o := o) hl h3 (by omega)⟩⟩)
    (fun k A b o u vs h hb ho => ⟨hCl k A b o u vs h.1 (by omega) ho, setk h.2.1 ho (by omega), setk h.2.2 ho (by omega)⟩) (fun k A h => hKp k A h.1) ?_ ⟨(hI 0).ext _ _ h0 hXW, hlp, hdf⟩).mono ?_
  · -- a round
    rintro k x vs W hx ⟨hi, hl, hd⟩ hh
    refine ⟨fn, _, assign, body, run_yield hl (hps x vs W hh), roundIn_of_wpIn trivial (hassign _ k x vs W _ hi hh fun a' Wa hXa hax => ?_)⟩
    have hl1 := keep hl hXa
    have hd1 := keep hd hXa
    have hlt := lt_of_block hl1
    refine ⟨_, run_beginRound hl1 rfl, ?_⟩
    obtain ⟨Wb, hWb⟩ : ∃ Wb, Wb = Wa.putObj (B + 1) (.loop { rc .ready none with state := .busy }) := ⟨_, rfl⟩
    have hl2 : Wb.heap[B + 1]? = some (.loop { rc .ready none with state := .busy }) := by rw [hWb]; exact World.putObj_heap_same hlt
    have hd2 : Wb.heap[B]? = some (.deferred (some [])) := by rw [hWb]; exact (World.putObj_heap_other (by omega)).trans hd1
    have lift : ∀ {p : World → Prop}, Stab B p → p Wa → p Wb := fun hp h => by rw [hWb]; exact hp.put _ _ _ _ h (by omega) hl1 rfl
    have hKw : KeepsFrom W1.heap.size W Wb := by
      rw [hWb]
      exact keepsF_trans (keeps_ext hXa) (keepsF_put (by omega) _)
    have hFw : Qk B W Wb := by
      rw [hWb]
      exact (Qk.of_ext hXa).trans (Qk.put hl1 rfl)
    rw [← hWb]
    refine wpIn_mono (hbody _ k x vs a' Wb hx (lift (hI k) ((hI k).ext _ _ hi hXa)) (lift (hH x vs) ((hH x vs).ext _ _ hh hXa)) (lift (hAx k x vs a') hax)) ?_
    have fin : ∀ (jump : Option Code) (W3 : World), KeepsFrom B Wb W3 → ∃ W4, (Instr.endRound (B + 1) jump).run P W3 = .ok (.bool jump.isNone) W4 ∧
        (∀ p : World → Prop, Stab B p → p W3 → p W4) ∧ W4.heap[B + 1]? = some (.loop (rc (if jump.isNone then .ready else .done) jump)) ∧ W4.heap[B]? = some (.deferred (some [])) ∧ KeepsFrom W1.heap.size W3 W4 ∧ Qk B W3 W4 := by
      intro jump W3 hk
      have hl3 := hk.same _ _ (by omega) hl2 rfl
      have hd3 := hk.same _ _ (Nat.le_refl _) hd2 rfl
      exact ⟨_, run_endRound jump hl3, fun p hp h => hp.put _ _ _ _ h (by omega) hl3 rfl, World.putObj_heap_same (lt_of_block hl3), (World.putObj_heap_other (by omega)).trans hd3, keepsF_put (by omega) _, Qk.put hl3 rfl⟩
    rintro e a3 W3 hp
    cases e with
    | normal =>
      obtain ⟨hk3, hi3, hf3⟩ := hp
      obtain ⟨W4, hr, hs, h4, h5, h7, h8⟩ := fin none W3 hk3
      exact ⟨_, W4, hr, .inl ⟨rfl, ⟨hs _ (hI _) hi3, h4, h5⟩, keepsF_trans (keepsF_trans hKw (keepsF_mono hk3 (by omega))) h7, ((hFw.trans hf3).trans h8).mono (by omega)⟩⟩
    | ret =>
      obtain ⟨hk3, hi3⟩ := hp
      obtain ⟨W4, hr, hs, h4, h5, h7, -⟩ := fin (some .ret) W3 hk3
      exact ⟨_, W4, hr, .inr ⟨rfl, ⟨.ret, hs _ (hIx _ _) hi3, h4, h5⟩, keepsF_trans (keepsF_trans hKw (keepsF_mono hk3 (by omega))) h7⟩⟩
    | exit id =>
      obtain ⟨hk3, hi3⟩ := hp
      obtain ⟨W4, hr, hs, h4, h5, h7, -⟩ := fin (some (.exit id)) W3 hk3
      exact ⟨_, W4, hr, .inr ⟨rfl, ⟨.exit id, hs _ (hIx _ _) hi3, h4, h5⟩, keepsF_trans (keepsF_trans hKw (keepsF_mono hk3 (by omega))) h7⟩⟩
    | goto t =>
      obtain ⟨hk3, hi3⟩ := hp
      obtain ⟨W4, hr, hs, h4, h5, h7, -⟩ := fin (some (.goto t)) W3 hk3
      exact ⟨_, W4, hr, .inr ⟨rfl, ⟨.goto t, hs _ (hIx _ _) hi3, h4, h5⟩, keepsF_trans (keepsF_trans hKw (keepsF_mono hk3 (by omega))) h7⟩⟩
    | panic ch => exact hp.elim
    | outgrown => exact hp.elim
  · -- behind it
    rintro e W2 ⟨⟨v, rfl⟩, ⟨hi, hl, hd⟩ | ⟨k, hk, c, hi, hl, hd⟩⟩
    · exact ⟨none, _, run_endLoop hl (by intro h; cases h), hdone B _ (Nat.le_refl _) ((hI _).put _ _ _ _ hi (by omega) hl rfl) ((World.putObj_heap_other (by omega)).trans hd)⟩
    · exact ⟨some c, _, run_endLoop hl (by intro h; cases h), wpIn_wide.2 (hstop B c k _ (Nat.le_refl _) hk ((hIx c k).put _ _ _ _ hi (by omega) hl rfl) ((World.putObj_heap_other (by omega)).trans hd))⟩
end

end Go.Proofs.YtljkneajdndgjaaGreat
set_option linter.unusedVariables false
set_option linter.unusedSimpArgs false
namespace Go.Proofs.YtljkneajdndgjaaGreat
open Go.RowKit
/-- Texts, byte by byte. -/
def cmpL : List UInt8 → List UInt8 → Int
  | [], [] => 0
  | [], _ :: _ => -1
  | _ :: _, [] => 1
  | x :: a, y :: b => if x < y then -1 else if x = y then cmpL a b else 1
theorem u8_tri (x y : UInt8) : x < y ∨ x = y ∨ y < x := by
  rcases Nat.lt_trichotomy x.toNat y.toNat with h | h | h
  · exact .inl h
  · exact .inr (.inl (UInt8.toNat_inj.1 h))
  · exact .inr (.inr h)
theorem u8_asym {x y : UInt8} (h : x < y) : ¬ y < x ∧ x ≠ y := by
  have h' : x.toNat < y.toNat := h
  exact ⟨fun k => by have k' : y.toNat < x.toNat := k; omega, fun e => by subst e; omega⟩
theorem u8_irr (x : UInt8) : ¬ x < x := fun h => (u8_asym h).1 h
theorem u8_trans {x y z : UInt8} (h : x < y) (k : y < z) : x < z := by
  have h' : x.toNat < y.toNat := h
  have k' : y.toNat < z.toNat := k
  show x.toNat < z.toNat
  omega
theorem cmpL_lt {x y : UInt8} (a b : List UInt8) (h : x < y) : cmpL (x :: a) (y :: b) = -1 := by simp only [cmpL]; rw [if_pos h]
theorem cmpL_gt {x y : UInt8} (a b : List UInt8) (h : y < x) : cmpL (x :: a) (y :: b) = 1 := by simp only [cmpL]; rw [if_neg (u8_asym h).1, if_neg (Ne.symm (u8_asym h).2)]
theorem cmpL_eq (x : UInt8) (a b : List UInt8) : cmpL (x :: a) (x :: b) = cmpL a b := by simp only [cmpL, if_neg (u8_irr x), if_true]
theorem cmpL_nil (y : UInt8) (b : List UInt8) : cmpL [] (y :: b) = -1 := rfl
theorem cmpL_nil' (y : UInt8) (b : List UInt8) : cmpL (y :: b) [] = 1 := rfl
theorem cmpL_swap : ∀ a b : List UInt8, cmpL b a = - cmpL a b
  | [], [] => rfl
  | [], _ :: _ => rfl
  | _ :: _, [] => rfl
  | x :: a, y :: b => by
    rcases u8_tri x y with h | h | h
    · rw [cmpL_lt _ _ h, cmpL_gt _ _ h]; rfl
    · subst h; rw [cmpL_eq, cmpL_eq]; exact cmpL_swap a b
    · rw [cmpL_lt _ _ h, cmpL_gt _ _ h]
theorem cmpL_range : ∀ a b : List UInt8, cmpL a b = -1 ∨ cmpL a b = 0 ∨ cmpL a b = 1
  | [], [] => .inr (.inl rfl)
  | [], _ :: _ => .inl rfl
  | _ :: _, [] => .inr (.inr rfl)
  | x :: a, y :: b => by
    rcases u8_tri x y with h | h | h
    · rw [cmpL_lt _ _ h]; simp
    · subst h; rw [cmpL_eq]; exact cmpL_range a b
    · rw [cmpL_gt _ _ h]; simp
theorem cmpL_zero : ∀ a b : List UInt8, cmpL a b = 0 ↔ a = b
  | [], [] => by simp [cmpL]
  | [], _ :: _ => by simp [cmpL]
  | _ :: _, [] => by simp [cmpL]
  | x :: a, y :: b => by
    rcases u8_tri x y with h | h | h
    · rw [cmpL_lt _ _ h]; have := (u8_asym h).2; simp [this]
    · subst h; rw [cmpL_eq, cmpL_zero a b]; simp
    · rw [cmpL_gt _ _ h]; have := Ne.symm (u8_asym h).2; simp [this]
theorem cmpL_trans : ∀ a b c : List UInt8, cmpL a b ≤ 0 → cmpL b c ≤ 0 → cmpL a c = min (cmpL a b) (cmpL b c)
  | [], [], c, _, h => by rw [show cmpL [] [] = 0 from rfl]; omega
  | [], y :: b, [], _, h => by rw [cmpL_nil'] at h; omega
  | [], y :: b, z :: c, _, h => by rw [cmpL_nil, cmpL_nil]; rcases cmpL_range (y :: b) (z :: c) with e | e | e <;> omega
  | x :: a, [], _, h, _ => by rw [cmpL_nil'] at h; omega
  | x :: a, y :: b, [], _, h => by rw [cmpL_nil'] at h; omega
  | x :: a, y :: b, z :: c, h, k => by
    rcases u8_tri x y with h1 | h1 | h1
    · rw [cmpL_lt _ _ h1]
      rcases u8_tri y z with k1 | k1 | k1
      · rw [cmpL_lt _ _ k1, cmpL_lt _ _ (u8_trans h1 k1)]; rfl
      · subst k1
        rw [cmpL_eq] at k ⊢
        rw [cmpL_lt _ _ h1]
        rcases cmpL_range b c with e | e | e <;> omega
      · rw [cmpL_gt _ _ k1] at k; omega
    · subst h1
      rw [cmpL_eq] at h ⊢
      rcases u8_tri x z with k1 | k1 | k1
      · rw [cmpL_lt _ _ k1, cmpL_lt _ _ k1]; rcases cmpL_range a b with e | e | e <;> omega
      · subst k1
        rw [cmpL_eq] at k ⊢
        rw [cmpL_eq]
        exact cmpL_trans a b c h k
      · rw [cmpL_gt _ _ k1] at k; omega
    · rw [cmpL_gt _ _ h1] at h; omega
theorem less_iff : ∀ a b : List UInt8, Op.bytesLess a b = decide (cmpL a b < 0)
  | [], [] => rfl
  | [], _ :: _ => rfl
  | _ :: _, [] => rfl
  | x :: a, y :: b => by
    simp only [Op.bytesLess]
    rcases u8_tri x y with h | h | h
    · rw [cmpL_lt _ _ h]; simp [h]
    · subst h; rw [cmpL_eq, less_iff a b]; simp [u8_irr]
    · rw [cmpL_gt _ _ h]; simp [(u8_asym h).1, Ne.symm (u8_asym h).2]
/-- Numbers. -/
def cmpN (n m : Int) : Int := if n < m then -1 else if m < n then 1 else 0
/-- Is it a value: of kind k, with the number n, and the text s? -/
def mayB (k n : Int) (s : ByteArray) : Bool := decide (k = 1 ∧ s.size = 0) || decide (k = 2 ∧ n = 0 ∧ s.size ≤ 64)
/-- Values: kind, number, text. -/
abbrev Vl := Int × Int × ByteArray
def may (a : Vl) : Bool := mayB a.1 a.2.1 a.2.2
def cmpV (a b : Vl) : Int :=
  if may a && may b then
    (if a.1 = 1 then (if b.1 = 1 then cmpN a.2.1 b.2.1 else -1) else if b.1 = 1 then 1 else cmpL a.2.2.data.toList b.2.2.data.toList)
  else 0
theorem may_kind {a : Vl} (h : may a = true) : (a.1 = 1 ∧ a.2.2.size = 0) ∨ (a.1 = 2 ∧ a.2.1 = 0 ∧ a.2.2.size ≤ 64) := by
  unfold may mayB at h; simpa using h
theorem text_eq {s t : ByteArray} (h : s.data.toList = t.data.toList) : s = t := by
  cases s; cases t; simp at h; congr 1
theorem empty_of {s : ByteArray} (h : s.size = 0) : s = ⟨#[]⟩ := by
  cases s with
  | mk d => congr 1; exact Array.eq_empty_of_size_eq_zero h
theorem cmpV_swap (a b : Vl) : cmpV b a = - cmpV a b := by
  unfold cmpV
  rw [Bool.and_comm]
  by_cases h : (may a && may b) = true
  · rw [if_pos h, if_pos h]
    have hL := cmpL_swap a.2.2.data.toList b.2.2.data.toList
    by_cases ha : a.1 = 1 <;> by_cases hb : b.1 = 1 <;> simp only [ha, hb, if_true, if_false]
    · unfold cmpN; split <;> split <;> (try split) <;> omega
    · rfl
    · exact hL
  · rw [if_neg h, if_neg h]; rfl
theorem cmpV_zero {a b : Vl} (ha : may a = true) (hb : may b = true) : cmpV a b = 0 ↔ a = b := by
  obtain ⟨k, n, s⟩ := a
  obtain ⟨k', n', s'⟩ := b
  unfold cmpV
  rw [ha, hb]
  rcases may_kind ha with ⟨h1, h2⟩ | ⟨h1, h2, h3⟩ <;> rcases may_kind hb with ⟨h4, h5⟩ | ⟨h4, h5, h6⟩ <;> simp only at h1 h2 h4 h5 <;> subst h1 <;> subst h4
  · have e1 := empty_of h2
    have e2 := empty_of h5
    subst e1; subst e2
    simp only [Bool.and_self, if_true]
    unfold cmpN
    constructor
    · intro h
      have : n = n' := by split at h <;> (try split at h) <;> omega
      rw [this]
    · intro h; cases h; simp
  · simp
  · simp
  · subst h2; subst h5
    simp only [Bool.and_self, if_true, if_neg (show ¬ (2 : Int) = 1 by decide)]
    rw [cmpL_zero]
    constructor
    · intro h; rw [text_eq h]
    · intro h; cases h; rfl
theorem cmpV_trans {a b c : Vl} (ha : may a = true) (hb : may b = true) (hc : may c = true) (h : cmpV a b ≤ 0) (k : cmpV b c ≤ 0) : cmpV a c = min (cmpV a b) (cmpV b c) := by
  unfold cmpV at h k ⊢
  rw [ha, hb] at h
  rw [hb, hc] at k
  rw [ha, hb, hc]
  simp only [Bool.and_self, if_true] at h k ⊢
  by_cases ka : a.1 = 1 <;> by_cases kb : b.1 = 1 <;> by_cases kc : c.1 = 1 <;> simp only [ka, kb, kc, if_true, if_false] at h k ⊢
  · unfold cmpN at h k ⊢; omega
  · unfold cmpN at h ⊢; omega
  · omega
  · rcases cmpL_range b.2.2.data.toList c.2.2.data.toList with e | e | e <;> omega
  · omega
  · omega
  · omega
  · exact cmpL_trans _ _ _ h k
theorem cmpV_range (a b : Vl) : cmpV a b = -1 ∨ cmpV a b = 0 ∨ cmpV a b = 1 := by
  unfold cmpV cmpN
  have := cmpL_range a.2.2.data.toList b.2.2.data.toList
  split
  · split
    · split
      · split
        · simp
        · split <;> simp
      · simp
    · split
      · simp
      · exact this
  · simp
end Go.Proofs.YtljkneajdndgjaaGreat
set_option linter.unusedVariables false
set_option linter.unusedSimpArgs false
namespace Go.Proofs.YtljkneajdndgjaaGreat
open Go.RowKit
/-- A value's three cells. -/
def vc (a : Vl) : List Value := [.int .i64 a.1, .int .i64 a.2.1, .string a.2.2]
/-- A row's cells. -/
def rc (l : List Vl) : List Value := l.flatMap vc
theorem rc_length (l : List Vl) : (rc l).length = l.length * 3 := by
  induction l with
  | nil => rfl
  | cons p r ih => simp only [rc, vc, List.flatMap_cons, List.length_append, List.length_cons, List.length_nil] at ih ⊢; omega
theorem rc_append (l m : List Vl) : rc (l ++ m) = rc l ++ rc m := by simp [rc]
theorem rc_one (l : List Vl) : ∀ u ∈ rc l, u.oneCell' = true := by
  intro u hu
  simp only [rc, List.mem_flatMap, vc] at hu
  obtain ⟨a, _, hu⟩ := hu
  simp at hu
  rcases hu with rfl | rfl | rfl <;> rfl
theorem rc_get : ∀ (l : List Vl) (i : Nat) (a : Vl), l[i]? = some a → ∀ j v, (vc a)[j]? = some v → (rc l)[i * 3 + j]? = some v
  | q :: r, 0, a, h, j, v, hv => by
    simp at h; subst h
    have hj : j < (vc q).length := (List.getElem?_eq_some_iff.1 hv).1
    simp only [rc, List.flatMap_cons]
    rw [List.getElem?_append_left (by omega), show 0 * 3 + j = j by omega]; exact hv
  | q :: r, i + 1, a, h, j, v, hv => by
    have := rc_get r i a (by simpa using h) j v hv
    rw [show (i + 1) * 3 + j = i * 3 + j + 1 + 1 + 1 by omega]
    simpa [rc, vc] using this
abbrev inI (n : Int) : Prop := -9223372036854775808 ≤ n ∧ n ≤ 9223372036854775807
/-- A row, where it lies. -/
abbrev Rw (w : World) (S : List Nat) (v : Value) (l : List Vl) : Prop := Sl w S 3 v l.length (rc l)
abbrev OwnR (w : World) (base : Nat) (v : Value) (l : List Vl) : Prop := w.ownsRow base 64 3 v l.length (rc l)
/-- Is it a row? -/
def mayR (l : List Vl) : Bool := decide (l.length ≤ 8) && l.all may
theorem mayR_iff {l : List Vl} : mayR l = true ↔ l.length ≤ 8 ∧ ∀ a ∈ l, may a = true := by
  unfold mayR; rw [Bool.and_eq_true, decide_eq_true_iff, List.all_eq_true]
/-- The first values that differ, else the lengths. -/
def cmpT : List Vl → List Vl → Int
  | [], [] => 0
  | [], _ :: _ => -1
  | _ :: _, [] => 1
  | x :: a, y :: b => if x = y then cmpT a b else cmpV x y
def cmpR (a b : List Vl) : Int := if mayR a && mayR b then cmpT a b else 0
theorem cmpT_swap : ∀ a b : List Vl, cmpT b a = - cmpT a b
  | [], [] => rfl
  | [], _ :: _ => rfl
  | _ :: _, [] => rfl
  | x :: a, y :: b => by
    simp only [cmpT]
    by_cases h : x = y
    · subst h; rw [if_pos rfl, if_pos rfl]; exact cmpT_swap a b
    · rw [if_neg h, if_neg (Ne.symm h)]; exact cmpV_swap x y
theorem cmpT_range : ∀ a b : List Vl, cmpT a b = -1 ∨ cmpT a b = 0 ∨ cmpT a b = 1
  | [], [] => .inr (.inl rfl)
  | [], _ :: _ => .inl rfl
  | _ :: _, [] => .inr (.inr rfl)
  | x :: a, y :: b => by
    simp only [cmpT]
    split
    · exact cmpT_range a b
    · exact cmpV_range x y
theorem cmpT_zero : ∀ a b : List Vl, (∀ x ∈ a, may x = true) → (∀ x ∈ b, may x = true) → (cmpT a b = 0 ↔ a = b)
  | [], [], _, _ => by simp [cmpT]
  | [], _ :: _, _, _ => by simp [cmpT]
  | _ :: _, [], _, _ => by simp [cmpT]
  | x :: a, y :: b, ha, hb => by
    simp only [cmpT]
    by_cases h : x = y
    · subst h; rw [if_pos rfl, cmpT_zero a b (fun z hz => ha z (by simp [hz])) (fun z hz => hb z (by simp [hz]))]; simp
    · rw [if_neg h, cmpV_zero (ha x (by simp)) (hb y (by simp))]; simp [h]
theorem cmpT_trans : ∀ a b c : List Vl, (∀ x ∈ a, may x = true) → (∀ x ∈ b, may x = true) → (∀ x ∈ c, may x = true) → cmpT a b ≤ 0 → cmpT b c ≤ 0 → cmpT a c = min (cmpT a b) (cmpT b c)
  | [], [], c, _, _, _, _, h => by rw [show cmpT [] [] = 0 from rfl]; omega
  | [], y :: b, [], _, _, _, _, h => by simp [cmpT] at h
  | [], y :: b, z :: c, _, _, _, _, h => by
    have e1 : cmpT [] (y :: b) = -1 := rfl
    have e2 : cmpT [] (z :: c) = -1 := rfl
    rw [e1, e2]; rcases cmpT_range (y :: b) (z :: c) with e | e | e <;> omega
  | x :: a, [], c, _, _, _, h, _ => by simp [cmpT] at h
  | x :: a, y :: b, [], _, _, _, _, h => by simp [cmpT] at h
  | x :: a, y :: b, z :: c, ha, hb, hc, h, k => by
    have hx := ha x (by simp)
    have hy := hb y (by simp)
    have hz := hc z (by simp)
    simp only [cmpT] at h k ⊢
    by_cases h1 : x = y
    · subst h1
      rw [if_pos rfl] at h ⊢
      by_cases k1 : x = z
      · subst k1
        rw [if_pos rfl] at k ⊢
        rw [if_pos rfl]
        exact cmpT_trans a b c (fun z hz => ha z (by simp [hz])) (fun z hz => hb z (by simp [hz])) (fun z hz => hc z (by simp [hz])) h k
      · rw [if_neg k1] at k ⊢
        rw [if_neg k1]
        have h0 := mt (cmpV_zero hx hz).1 k1
        rcases cmpV_range x z with e | e | e <;> rcases cmpT_range a b with f | f | f <;> omega
    · rw [if_neg h1] at h ⊢
      have h0 := mt (cmpV_zero hx hy).1 h1
      by_cases k1 : y = z
      · subst k1
        rw [if_neg h1]
        rw [if_pos rfl] at k ⊢
        rcases cmpV_range x y with e | e | e <;> rcases cmpT_range b c with f | f | f <;> omega
      · rw [if_neg k1] at k ⊢
        have k0 := mt (cmpV_zero hy hz).1 k1
        have ht := cmpV_trans hx hy hz h k
        have hxz : x ≠ z := by
          rintro rfl
          have h2 := (cmpV_zero hx hx).2 rfl
          rcases cmpV_range x y with e | e | e <;> rcases cmpV_range y x with f | f | f <;> omega
        rw [if_neg hxz]
        exact ht
end Go.Proofs.YtljkneajdndgjaaGreat
