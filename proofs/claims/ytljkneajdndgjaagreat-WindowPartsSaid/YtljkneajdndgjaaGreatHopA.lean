/-
  A helper of ours: no claim of its own. Layer 28 (hop): sizes, ticks, the first window that is not closed, by the code and by the document.
-/
import Derived.Test.YtljkneajdndgjaaGreatRx
import Derived.Test.YtljkneajdndgjaaGreatRows
import Derived.Test.YtljkneajdndgjaaGreatMem
import Derived.Handy
import Derived.WalkSmall
set_option linter.unusedVariables false
set_option linter.unusedSimpArgs false
namespace Go.Proofs.YtljkneajdndgjaaGreat
open Go.RowKit
/-- A fact stays where a cell of a later block of windows is turned. -/
def Cls (N : Nat) (p : World → Prop) : Prop := ∀ A b o u vs, p A → N ≤ b → Ob A b 82 vs → p (A.setCell ⟨b, o, none⟩ u)
/-- Later blocks stay, but those of copies. -/
def Qk (N : Nat) (W W' : World) : Prop := ∀ b T us, N ≤ b → T ≠ 56 → Ob W b T us → Ob W' b T us
theorem Qk.trans {N : Nat} {A B C : World} (h : Qk N A B) (k : Qk N B C) : Qk N A C := fun b T us hb hT ho => k b T us hb hT (h b T us hb hT ho)
theorem Qk.of_ext {N : Nat} {A B : World} (h : Ext A B) : Qk N A B := fun b T us _ _ ho => ho.ext h
theorem Qk.mono {N M : Nat} {A B : World} (h : Qk N A B) (hM : N ≤ M) : Qk M A B := fun b T us hb hT ho => h b T us (Nat.le_trans hM hb) hT ho
theorem Qk.put {N l : Nat} {A : World} {o o' : Obj} (ho : A.heap[l]? = some o) (hc : o.isCells = false) : Qk N A (A.putObj l o') := fun b T us _ _ h => ob_putF ho hc h
/-- What is ranged over: J tells what it reads (Kp), and stays where its boxes are turned. -/
def SeqsK {β : Type} (Kp : World → Prop) (P : Program) (g : Nat) (lb : Array Value) (H : β → Array Value → World → Prop) (xs : List β) (w : World) : Prop :=
  ∀ (l : Nat) (J Jx : Nat → World → Prop) (W : World), Ext w W → (∀ k, Stab W.heap.size (J k)) → (∀ k, Stab W.heap.size (Jx k)) → (∀ k, Cls W.heap.size (J k)) → (∀ k A, J k A → Kp A) →
    (∀ k x vs W1, xs[k]? = some x → J k W1 → H x vs W1 → YieldAt Fence.wide 0 P l vs W1 fun e W' =>
      (e = .returned (.bool true) ∧ J (k + 1) W' ∧ KeepsFrom W.heap.size W1 W' ∧ Qk W.heap.size W1 W') ∨ (e = .returned (.bool false) ∧ Jx (k + 1) W' ∧ KeepsFrom W.heap.size W1 W')) →
    J 0 W → Calls P g (#[.func (.yield l) #[] #[]] ++ lb) W fun e W' => (∃ v, e = .returned v) ∧ (J xs.length W' ∨ ∃ k, k ≤ xs.length ∧ Jx k W')
/-- How the body of a round may be left. -/
def rfPostK (B : Nat) (I : Nat → World → Prop) (Ix : Code → Nat → World → Prop) (k : Nat) (W : World) : Exit → Act → World → Prop
  | .normal, _, W' => KeepsFrom B W W' ∧ I k W' ∧ Qk B W W'
  | .ret, _, W' => KeepsFrom B W W' ∧ Ix .ret k W'
  | .exit id, _, W' => KeepsFrom B W W' ∧ Ix (.exit id) k W'
  | .goto t, _, W' => KeepsFrom B W W' ∧ Ix (.goto t) k W'
  | .panic _, _, _ => False
  | .outgrown, _, _ => False
section
variable {β : Type} {P : Program} {g : Operand} {ps : Array Tmp} {assign body : Code} {Q : Exit → Act → World → Prop} {a : Act} {w w0 : World} {gf : Nat} {Kp : World → Prop} {lb : Array Value} {H : β → Array Value → World → Prop} {xs : List β}
/-- The statement 'for .. := range g { .. }'. -/
theorem wp_rangeK (hg : a.eval g = .func (.func gf) #[] lb) (eg : ∀ args w, (callFunc gf args).run P w = .ok (.enter gf args) w)
    (hseq : SeqsK Kp P gf lb H xs w0) (hb0 : Ext w0 w) (hps : ∀ x vs W, H x vs W → vs.size = ps.size) (hH : ∀ x vs, Stab w.heap.size (H x vs))
    (I : Nat → World → Prop) (hKp : ∀ k A, I k A → Kp A) (hCl : ∀ k, Cls w.heap.size (I k)) (Ix : Code → Nat → World → Prop) (hI : ∀ k, Stab w.heap.size (I k)) (hIx : ∀ c k, Stab w.heap.size (Ix c k)) (h0 : I 0 w)
    (Ax : Nat → β → Array Value → Act → World → Prop) (hAx : ∀ k x vs a', Stab w.heap.size (Ax k x vs a'))
    (hassign : ∀ (l k : Nat) (x : β) (vs : Array Value) (W : World) (K : Act → World → Prop), I k W → H x vs W → (∀ a' W', Ext W W' → Ax k x vs a' W' → K a' W') →
      assign.wpIn (Fence.wide.inRound l) 0 P (Exit.then K fun _ _ _ => False) { tmps := (ps.zip vs).foldl (fun t (p, v) => t.setIfInBounds p v) a.tmps, defers := [] } W)
    (hbody : ∀ (l k : Nat) (x : β) (vs : Array Value) (a' : Act) (W : World), xs[k]? = some x → I k W → H x vs W → Ax k x vs a' W →
      body.wpIn (Fence.wide.inRound l) 0 P (rfPostK w.heap.size I Ix (k + 1) W) a' W)
    (hdone : ∀ (D : Nat) (W : World), w.heap.size ≤ D → I xs.length W → W.heap[D]? = some (.deferred (some [])) → Q .normal { a with defers := { target := .collected D, args := #[] } :: a.defers } W)
    (hstop : ∀ (D : Nat) (c : Code) (k : Nat) (W : World), w.heap.size ≤ D → k ≤ xs.length → Ix c k W → W.heap[D]? = some (.deferred (some [])) → c.wp P Q { a with defers := { target := .collected D, args := #[] } :: a.defers } W) :
    (Code.rangeFunc g ps assign body).wp P Q a w := by
  refine (wpIn_wide (n := 0)).1 (wpIn_rangeFunc fun fn _ => ?_)
  obtain ⟨B, hBe⟩ : ∃ B, B = w.heap.size := ⟨_, rfl⟩
  rw [← hBe] at hH hI hIx hAx hCl hbody hdone hstop
  -- the loop's record
  let rc : LoopState → Option Code → Loop := fun st pe => { state := st, pending := pe, fn, tmps := a.tmps, params := ps, assign, body, defers := B }
  have hW1 : ∃ W1, W1 = (w.alloc (.deferred (some []))).alloc (.loop (rc .ready none)) := ⟨_, rfl⟩
  obtain ⟨W1, hW1⟩ := hW1
  have hXW : Ext w W1 := by rw [hW1]; exact ((Ext.refl w).alloc _).alloc _
  have hlp : W1.heap[B + 1]? = some (.loop (rc .ready none)) := by
    have := World.alloc_heap_new (w.alloc (.deferred (some []))) (.loop (rc .ready none))
    rw [World.size_alloc, ← hBe, ← hW1] at this; exact this
  have hdf : W1.heap[B]? = some (.deferred (some [])) := by
    have h1 := World.alloc_heap_new w (.deferred (some []))
    rw [← hBe] at h1
    rw [hW1]
    exact (Below.heap_alloc _ _ _ (lt_of_block h1)).trans h1
  refine ⟨B + 1, [{ target := .collected B, args := #[] }], W1, { target := .fn (.func gf) lb, args := #[.func (.yield (B + 1)) #[] #[]] }, W1, gf, #[.func (.yield (B + 1)) #[] #[]] ++ lb, W1, ?_, ?_, fun _ _ => trivial, ?_, fun h => by simp [Fence.wide] at h, callsIn_wide.2 ?_⟩
  · have h1 := run_enterLoop_outer (P := P) (w := w) fn a.tmps ps assign body
    rw [← hBe] at h1
    rw [hW1]
    exact h1
  · simp only [resolve, hg]
    simp [go_sem]
  · simp [invoke, go_sem, eg]
  have keep : ∀ {A C : World} {k : Nat} {o : Obj}, A.heap[k]? = some o → Ext A C → C.heap[k]? = some o := fun h e => (e.block _ (lt_of_block h)).trans h
  have hWs : W1.heap.size = B + 2 := by rw [hW1]; simp; omega
  have setk : ∀ {A : World} {b k : Nat} {T : TypeId} {vs : List Value} {o : Obj} {p : Nat} {u : Value}, A.heap[k]? = some o → Ob A b T vs → b ≠ k → (A.setCell ⟨b, p, none⟩ u).heap[k]? = some o := fun hk _ hne => (Below.heap_setCell _ ⟨_, _, none⟩ _ _ (Ne.symm hne)).trans hk
  have blk : ∀ {A : World} {l k : Nat} {o o' p : Obj}, W1.heap.size ≤ l → A.heap[k]? = some p → k < B + 2 → (A.putObj l o').heap[k]? = some p := fun hl hk hlt => (World.putObj_heap_other (by omega)).trans hk
  refine (hseq (B + 1) (fun k W => I k W ∧ W.heap[B + 1]? = some (.loop (rc .ready none)) ∧ W.heap[B]? = some (.deferred (some [])))
    (fun k W => ∃ c, Ix c k W ∧ W.heap[B + 1]? = some (.loop (rc .done (some c))) ∧ W.heap[B]? = some (.deferred (some []))) W1 (hb0.trans hXW)
    (fun k => ⟨fun A C h e => ⟨(hI k).ext A C h.1 e, keep h.2.1 e, keep h.2.2 e⟩, fun A l o o' h hl ho hc => ⟨(hI k).put A l o o' h.1 (by omega) ho hc, blk (o := o) hl h.2.1 (by omega), blk (o := o) hl h.2.2 (by omega)⟩⟩)
    (fun k => ⟨fun A C ⟨c, h1, h2, h3⟩ e => ⟨c, (hIx c k).ext A C h1 e, keep h2 e, keep h3 e⟩, fun A l o o' ⟨c, h1, h2, h3⟩ hl ho hc => ⟨c, (hIx c k).put A l o o' h1 (by omega) ho hc, blk (o := o) hl h2 (by omega), blk (o := o) hl h3 (by omega)⟩⟩)
    (fun k A b o u vs h hb ho => ⟨hCl k A b o u vs h.1 (by omega) ho, setk h.2.1 ho (by omega), setk h.2.2 ho (by omega)⟩) (fun k A h => hKp k A h.1) ?_ ⟨(hI 0).ext _ _ h0 hXW, hlp, hdf⟩).mono ?_
  · -- a round
    rintro k x vs W hx ⟨hi, hl, hd⟩ hh
    refine ⟨fn, _, assign, body, run_yield hl (hps x vs W hh), roundIn_of_wpIn trivial (hassign _ k x vs W _ hi hh fun a' Wa hXa hax => ?_)⟩
    have hl1 := keep hl hXa
    have hd1 := keep hd hXa
    have hlt := lt_of_block hl1
    refine ⟨_, run_beginRound hl1 rfl, ?_⟩
    obtain ⟨Wb, hWb⟩ : ∃ Wb, Wb = Wa.putObj (B + 1) (.loop { rc .ready none with state := .busy }) := ⟨_, rfl⟩
    have hl2 : Wb.heap[B + 1]? = some (.loop { rc .ready none with state := .busy }) := by rw [hWb]; exact World.putObj_heap_same hlt
    have hd2 : Wb.heap[B]? = some (.deferred (some [])) := by rw [hWb]; exact (World.putObj_heap_other (by omega)).trans hd1
    have lift : ∀ {p : World → Prop}, Stab B p → p Wa → p Wb := fun hp h => by rw [hWb]; exact hp.put _ _ _ _ h (by omega) hl1 rfl
    have hKw : KeepsFrom W1.heap.size W Wb := by
      rw [hWb]
      exact keepsF_trans (keeps_ext hXa) (keepsF_put (by omega) _)
    have hFw : Qk B W Wb := by
      rw [hWb]
      exact (Qk.of_ext hXa).trans (Qk.put hl1 rfl)
    rw [← hWb]
    refine wpIn_mono (hbody _ k x vs a' Wb hx (lift (hI k) ((hI k).ext _ _ hi hXa)) (lift (hH x vs) ((hH x vs).ext _ _ hh hXa)) (lift (hAx k x vs a') hax)) ?_
    have fin : ∀ (jump : Option Code) (W3 : World), KeepsFrom B Wb W3 → ∃ W4, (Instr.endRound (B + 1) jump).run P W3 = .ok (.bool jump.isNone) W4 ∧
        (∀ p : World → Prop, Stab B p → p W3 → p W4) ∧ W4.heap[B + 1]? = some (.loop (rc (if jump.isNone then .ready else .done) jump)) ∧ W4.heap[B]? = some (.deferred (some [])) ∧ KeepsFrom W1.heap.size W3 W4 ∧ Qk B W3 W4 := by
      intro jump W3 hk
      have hl3 := hk.same _ _ (by omega) hl2 rfl
      have hd3 := hk.same _ _ (Nat.le_refl _) hd2 rfl
      exact ⟨_, run_endRound jump hl3, fun p hp h => hp.put _ _ _ _ h (by omega) hl3 rfl, World.putObj_heap_same (lt_of_block hl3), (World.putObj_heap_other (by omega)).trans hd3, keepsF_put (by omega) _, Qk.put hl3 rfl⟩
    rintro e a3 W3 hp
    cases e with
    | normal =>
      obtain ⟨hk3, hi3, hf3⟩ := hp
      obtain ⟨W4, hr, hs, h4, h5, h7, h8⟩ := fin none W3 hk3
      exact ⟨_, W4, hr, .inl ⟨rfl, ⟨hs _ (hI _) hi3, h4, h5⟩, keepsF_trans (keepsF_trans hKw (keepsF_mono hk3 (by omega))) h7, ((hFw.trans hf3).trans h8).mono (by omega)⟩⟩
    | ret =>
      obtain ⟨hk3, hi3⟩ := hp
      obtain ⟨W4, hr, hs, h4, h5, h7, -⟩ := fin (some .ret) W3 hk3
      exact ⟨_, W4, hr, .inr ⟨rfl, ⟨.ret, hs _ (hIx _ _) hi3, h4, h5⟩, keepsF_trans (keepsF_trans hKw (keepsF_mono hk3 (by omega))) h7⟩⟩
    | exit id =>
      obtain ⟨hk3, hi3⟩ := hp
      obtain ⟨W4, hr, hs, h4, h5, h7, -⟩ := fin (some (.exit id)) W3 hk3
      exact ⟨_, W4, hr, .inr ⟨rfl, ⟨.exit id, hs _ (hIx _ _) hi3, h4, h5⟩, keepsF_trans (keepsF_trans hKw (keepsF_mono hk3 (by omega))) h7⟩⟩
    | goto t =>
      obtain ⟨hk3, hi3⟩ := hp
      obtain ⟨W4, hr, hs, h4, h5, h7, -⟩ := fin (some (.goto t)) W3 hk3
      exact ⟨_, W4, hr, .inr ⟨rfl, ⟨.goto t, hs _ (hIx _ _) hi3, h4, h5⟩, keepsF_trans (keepsF_trans hKw (keepsF_mono hk3 (by omega))) h7⟩⟩
    | panic ch => exact hp.elim
    | outgrown => exact hp.elim
  · -- behind it
    rintro e W2 ⟨⟨v, rfl⟩, ⟨hi, hl, hd⟩ | ⟨k, hk, c, hi, hl, hd⟩⟩
    · exact ⟨none, _, run_endLoop hl (by intro h; cases h), hdone B _ (Nat.le_refl _) ((hI _).put _ _ _ _ hi (by omega) hl rfl) ((World.putObj_heap_other (by omega)).trans hd)⟩
    · exact ⟨some c, _, run_endLoop hl (by intro h; cases h), wpIn_wide.2 (hstop B c k _ (Nat.le_refl _) hk ((hIx c k).put _ _ _ _ hi (by omega) hl rfl) ((World.putObj_heap_other (by omega)).trans hd))⟩
end

end Go.Proofs.YtljkneajdndgjaaGreat
set_option linter.unusedVariables false
set_option linter.unusedSimpArgs false
namespace Go.Proofs.YtljkneajdndgjaaGreat
open Go.RowKit
attribute [local go_sem] GW.cell GW.frozen In.eq_true In.le_true In.ne In.ne' In.ne_add In.ne_add' In.lt_add Upto.le_true Upto.le_add Upto.lt_add


def flQ (a b : Int) : Int := if b < 1 then 0 else a / b
def flR (a b : Int) : Int := if b < 1 then 0 else a % b
def flE (b : Int) : Int := if b < 1 then 2 else 0

theorem tdiv_abs (a b : Int) : (a.tdiv b).natAbs ≤ a.natAbs := by
  rw [Int.natAbs_tdiv]; exact Nat.div_le_self _ _
theorem tdiv_in {a b : Int} (ha : -9223372036854775808 ≤ a ∧ a ≤ 9223372036854775807) (h : ¬ (a = -9223372036854775808 ∧ b = -1)) : -9223372036854775808 ≤ a.tdiv b ∧ a.tdiv b ≤ 9223372036854775807 := by
  have h1 := tdiv_abs a b
  by_cases hb : b = 0
  · subst hb; simp
  by_cases e : a.tdiv b = 9223372036854775808
  · exfalso
    have ha' : a.natAbs = 9223372036854775808 := by rw [e] at h1; omega
    have ha2 : a = -9223372036854775808 := by omega
    have h2 : (a.tdiv b).natAbs = a.natAbs / b.natAbs := Int.natAbs_tdiv a b
    rw [e, ha'] at h2
    have h3 : b.natAbs = 1 := by
      rcases Nat.lt_or_ge 1 b.natAbs with h | h
      · have := Nat.div_lt_self (n := 9223372036854775808) (by omega) h; omega
      · omega
    have : b = 1 ∨ b = -1 := by omega
    rcases this with rfl | rfl
    · rw [ha2] at e; simp at e
    · exact h ⟨ha2, rfl⟩
  · omega
theorem tmod_abs {a b : Int} (ha : -9223372036854775808 ≤ a ∧ a ≤ 9223372036854775807) : -9223372036854775808 ≤ a.tmod b ∧ a.tmod b ≤ 9223372036854775807 := by
  have h1 : (a.tmod b).natAbs = a.natAbs % b.natAbs := Int.natAbs_tmod a b
  have h2 := Nat.mod_le a.natAbs b.natAbs
  have h3 : 0 ≤ a → 0 ≤ a.tmod b := fun h => Int.tmod_nonneg b h
  have h4 : a ≤ 0 → a.tmod b ≤ 0 := fun h => by
    have := Int.tmod_nonneg b (a := -a) (by omega)
    rw [Int.neg_tmod] at this; omega
  rcases Int.le_total 0 a with h | h
  · have := h3 h; omega
  · have := h4 h; omega
/-- From the quotient that is cut to the one that is not above. -/
theorem floor_neg {a b : Int} (hb : 1 ≤ b) (h : a.tmod b < 0) : a.tdiv b - 1 = a / b ∧ a.tmod b + b = a % b := by
  have h1 := Int.mul_tdiv_add_tmod a b
  have h2 : (a.tmod b).natAbs < b.natAbs := by rw [Int.natAbs_tmod]; exact Nat.mod_lt _ (by omega)
  have e : a = b * (a.tdiv b - 1) + (a.tmod b + b) := by rw [Int.mul_sub]; omega
  have h3 : a % b = a.tmod b + b := by
    conv => lhs; rw [e]
    rw [Int.add_comm, Int.add_mul_emod_self_left]; exact Int.emod_eq_of_lt (by omega) (by omega)
  have h4 := Int.mul_ediv_add_emod a b
  refine ⟨?_, h3.symm⟩
  rw [h3] at h4
  have : b * (a / b) = b * (a.tdiv b - 1) := by omega
  exact (Int.eq_of_mul_eq_mul_left (by omega) this).symm
theorem floor_pos {a b : Int} (hb : 1 ≤ b) (h : 0 ≤ a.tmod b) : a.tdiv b = a / b ∧ a.tmod b = a % b := by
  have h1 := Int.mul_tdiv_add_tmod a b
  have h2 : (a.tmod b).natAbs < b.natAbs := by rw [Int.natAbs_tmod]; exact Nat.mod_lt _ (by omega)
  have h3 : a % b = a.tmod b := by
    conv => lhs; rw [← h1]
    rw [Int.add_comm, Int.add_mul_emod_self_left]; exact Int.emod_eq_of_lt (by omega) (by omega)
  have h4 := Int.mul_ediv_add_emod a b
  refine ⟨?_, h3.symm⟩
  rw [h3] at h4
  have : b * (a / b) = b * a.tdiv b := by omega
  exact (Int.eq_of_mul_eq_mul_left (by omega) this).symm











end Go.Proofs.YtljkneajdndgjaaGreat
set_option linter.unusedVariables false
set_option linter.unusedSimpArgs false
namespace Go.Proofs.YtljkneajdndgjaaGreat
open Go.RowKit
attribute [local go_sem] GW.cell GW.frozen In.eq_true In.le_true In.ne In.ne' In.ne_add In.ne_add' In.lt_add Upto.le_true Upto.le_add Upto.lt_add
set_option maxHeartbeats 2000000 in
theorem floor_c (a b : Int) (ha : -9223372036854775808 ≤ a ∧ a ≤ 9223372036854775807) (hb : -9223372036854775808 ≤ b ∧ b ≤ 9223372036854775807) (w : World) : Calls Tryz.prog 135 #[.int .i64 a, .int .i64 b] w fun e w' => e = .returned (.tuple #[.int .i64 (flQ a b), .int .i64 (flR a b), .int .i64 (flE b)]) ∧ Ext w w' := by
  by_cases h : b < 1
  · clear ha hb
    go_enter Tryz.func135, Tryz.ntmps135
    go_wp2_with fail
    all_goals
      go_returns
      refine ⟨by first | rfl | (simp [flQ, flR, flE, *]; done) | (simp [flQ, flR, flE, *]; omega), ?_⟩
      repeat (first | exact Ext.refl _ | with_reducible assumption | refine Ext.alloc ?_ _ | refine Ext.drew ?_ | refine Ext.drewN ?_ _ | refine ext_gw ?_ _ | refine Ext.setCell ?_ (by first | (simp; done) | (simp [Upto.le_true, Upto.le_add]; done) | (simp; omega)) _)
  have h1 : 1 ≤ b := by omega
  have hi := tdiv_in (b := b) ha (by omega)
  have hj := tmod_abs (b := b) ha
  have hlt : (a.tmod b).natAbs < b.natAbs := by rw [Int.natAbs_tmod]; exact Nat.mod_lt _ (by omega)
  have hz : a.tdiv b = -9223372036854775808 → a.tmod b < 0 → False := fun h2 h3 => by
    have h4 := Int.mul_tdiv_add_tmod a b
    rw [h2] at h4
    omega
  have core : ∀ q r, IntKind.i64.wrap (a.tdiv b) = q → a.tmod b = r → (r < 0 → q - 1 = a / b ∧ r + b = a % b ∧ -9223372036854775807 ≤ q) → (0 ≤ r → q = a / b ∧ r = a % b) → -9223372036854775808 ≤ r ∧ r ≤ 9223372036854775807 → -9223372036854775808 ≤ q ∧ q ≤ 9223372036854775807 →
      Calls Tryz.prog 135 #[.int .i64 a, .int .i64 b] w fun e w' => e = .returned (.tuple #[.int .i64 (flQ a b), .int .i64 (flR a b), .int .i64 (flE b)]) ∧ Ext w w' := by
    intro q r hq hr n p ir iq
    have e0 : (b == 0) = false := by simp; omega
    have k0 : ¬ b = 0 := by omega
    obtain ⟨ir1, ir2⟩ := ir
    obtain ⟨iq1, iq2⟩ := iq
    obtain ⟨ib1, ib2⟩ := hb
    clear ha hi hj hlt hz
    by_cases hr0 : r < 0
    · obtain ⟨n1, n2, n3⟩ := n hr0
      have hv := hide (show (flQ a b = q - 1 ∧ flR a b = r + b) from ⟨by rw [flQ, if_neg h, n1], by rw [flR, if_neg h, n2]⟩)
      clear n p n1 n2
      go_enter Tryz.func135, Tryz.ntmps135
      go_wp2_with fail
      refine wp_region_gw (by kernel_rfl) (by kernel_rfl) ?_
      repeat (go_big_quiet_step (fail))
      refine wpQuiet_nil ?_
      intro g
      go_wp2_with fail
      all_goals
        go_returns
        refine ⟨by rw [hv.out.1, hv.out.2]; first | rfl | (simp [flQ, flR, flE, *]; done) | (simp [flQ, flR, flE, *]; omega), ?_⟩
        repeat (first | exact Ext.refl _ | with_reducible assumption | refine Ext.alloc ?_ _ | refine Ext.drew ?_ | refine Ext.drewN ?_ _ | refine ext_gw ?_ _ | refine Ext.setCell ?_ (by first | (simp; done) | (simp [Upto.le_true, Upto.le_add]; done) | (simp; omega)) _)
    · obtain ⟨n1, n2⟩ := p (by omega)
      have hv := hide (show (flQ a b = q ∧ flR a b = r) from ⟨by rw [flQ, if_neg h, n1], by rw [flR, if_neg h, n2]⟩)
      clear n p n1 n2
      go_enter Tryz.func135, Tryz.ntmps135
      go_wp2_with fail
      refine wp_region_gw (by kernel_rfl) (by kernel_rfl) ?_
      repeat (go_big_quiet_step (fail))
      refine wpQuiet_nil ?_
      intro g
      go_wp2_with fail
      all_goals
        go_returns
        refine ⟨by rw [hv.out.1, hv.out.2]; first | rfl | (simp [flQ, flR, flE, *]; done) | (simp [flQ, flR, flE, *]; omega), ?_⟩
        repeat (first | exact Ext.refl _ | with_reducible assumption | refine Ext.alloc ?_ _ | refine Ext.drew ?_ | refine Ext.drewN ?_ _ | refine ext_gw ?_ _ | refine Ext.setCell ?_ (by first | (simp; done) | (simp [Upto.le_true, Upto.le_add]; done) | (simp; omega)) _)
  have ei := IntWalk.i64_in _ hi
  refine core _ _ ei rfl ?_ ?_ hj hi
  · intro h2
    have h4 := floor_neg h1 h2
    have h5 : a.tdiv b ≠ -9223372036854775808 := fun e => hz e h2
    exact ⟨h4.1, h4.2, by omega⟩
  · exact fun h2 => floor_pos h1 h2
end Go.Proofs.YtljkneajdndgjaaGreat
set_option linter.unusedVariables false
set_option linter.unusedSimpArgs false
namespace Go.Proofs.YtljkneajdndgjaaGreat
open Go.RowKit
attribute [local go_sem] GW.cell GW.frozen In.eq_true In.le_true In.ne In.ne' In.ne_add In.ne_add' In.lt_add Upto.le_true Upto.le_add Upto.lt_add
abbrev I64 (n : Int) : Prop := -9223372036854775808 ≤ n ∧ n ≤ 9223372036854775807
/-- What may be a size or a hop; what is a tick. -/
def hlen (n : Int) : Bool := decide (1 ≤ n) && decide (n ≤ 1099511627776)
def htick (n : Int) : Bool := decide (0 ≤ n) && decide (n ≤ 1125899906842624)
theorem hlen_iff {n : Int} : hlen n = true ↔ 1 ≤ n ∧ n ≤ 1099511627776 := by unfold hlen; simp
theorem htick_iff {n : Int} : htick n = true ↔ 0 ≤ n ∧ n ≤ 1125899906842624 := by unfold htick; simp
/-- How many hops ahead of a place, made up to a whole one. -/
def hcnt (h x : Int) : Int := if x ≤ 0 then 0 else (x - 1) / h + 1
def hbeg (h x : Int) : Int := if hcnt h x * h < 1125899906842624 then hcnt h x * h else 1125899906842624
theorem hcnt_up {h x : Int} (hh : 1 ≤ h) (hx : 0 < x) : hcnt h x = x / h + (if 0 < x % h then 1 else 0) := by
  unfold hcnt
  rw [if_neg (by omega)]
  have e1 := Int.mul_ediv_add_emod x h
  have e2 := Int.emod_nonneg x (b := h) (by omega)
  have e3 := Int.emod_lt_of_pos x (b := h) (by omega)
  split
  · have : x - 1 = (x % h - 1) + h * (x / h) := by omega
    rw [this, Int.add_mul_ediv_left _ _ (by omega), Int.ediv_eq_zero_of_lt (by omega) (by omega)]
    omega
  · have : x - 1 = (h - 1) + h * (x / h - 1) := by rw [Int.mul_sub]; omega
    rw [this, Int.add_mul_ediv_left _ _ (by omega), Int.ediv_eq_zero_of_lt (by omega) (by omega)]
    omega
theorem hcnt_in {h x : Int} (hh : 1 ≤ h) : 0 ≤ hcnt h x ∧ x ≤ hcnt h x * h ∧ (0 < x → hcnt h x * h < x + h) ∧ (x ≤ 0 → hcnt h x = 0) := by
  unfold hcnt
  split
  · simp; omega
  · have e1 := Int.mul_ediv_add_emod (x - 1) h
    have e2 := Int.emod_nonneg (x - 1) (b := h) (by omega)
    have e3 := Int.emod_lt_of_pos (x - 1) (b := h) (by omega)
    have e4 : 0 ≤ (x - 1) / h := Int.ediv_nonneg (by omega) (by omega)
    rw [Int.add_mul, Int.mul_comm]
    omega
theorem isLength_c (n : Int) (w : World) : Calls Tryz.prog 85 #[.int .i64 n] w fun e w' => e = .returned (.bool (hlen n)) ∧ Ext w w' := by
  by_cases h0 : 1 ≤ n <;> by_cases h1 : n ≤ 1099511627776
  all_goals
    go_enter Tryz.func85, Tryz.ntmps85
    go_wp2_with fail
    go_returns
    exact ⟨by first | rfl | (simp [hlen, h0, h1]; done) | (simp [hlen]; omega), Ext.refl _⟩
theorem hisTick_c (n : Int) (w : World) : Calls Tryz.prog 86 #[.int .i64 n] w fun e w' => e = .returned (.bool (htick n)) ∧ Ext w w' := by
  by_cases h0 : 0 ≤ n <;> by_cases h1 : n ≤ 1125899906842624
  all_goals
    go_enter Tryz.func86, Tryz.ntmps86
    go_wp2_with fail
    go_returns
    exact ⟨by first | rfl | (simp [htick, h0, h1]; done) | (simp [htick]; omega), Ext.refl _⟩
theorem hrefTick_c (n : Int) (w : World) : Calls Tryz.prog 63 #[.int .i64 n] w fun e w' => e = .returned (.bool (htick n)) ∧ Ext w w' := by
  by_cases h0 : 0 ≤ n <;> by_cases h1 : n ≤ 1125899906842624
  all_goals
    go_enter Tryz.func63, Tryz.ntmps63
    go_wp2_with fail
    go_returns
    exact ⟨by first | rfl | (simp [htick, h0, h1]; done) | (simp [htick]; omega), Ext.refl _⟩
theorem hrefMay_c (s h : Int) (w : World) : Calls Tryz.prog 39 #[.int .i64 s, .int .i64 h] w fun e w' => e = .returned (.bool (hlen s && hlen h)) ∧ Ext w w' := by
  by_cases h0 : 0 < s <;> by_cases h1 : s ≤ 1099511627776 <;> by_cases h2 : 0 < h <;> by_cases h3 : h ≤ 1099511627776
  all_goals
    go_enter Tryz.func39, Tryz.ntmps39
    go_wp2_with fail
    go_returns
    exact ⟨by first | rfl | (simp [hlen, h0, h1, h2, h3]; done) | (simp [hlen]; omega), Ext.refl _⟩
/-- Where a window ends. -/
def hend (s t : Int) : Int := if 1125899906842624 < t + s then 1125899906842624 else t + s
theorem hrefEnd_c (s t : Int) (hb : I64 (t + s)) (w : World) : Calls Tryz.prog 69 #[.int .i64 s, .int .i64 t] w fun e w' => e = .returned (.int .i64 (hend s t)) ∧ Ext w w' := by
  obtain ⟨b1, b2⟩ := hb
  unfold hend
  by_cases h0 : 1125899906842624 < t + s
  · rw [if_pos h0]
    go_enter Tryz.func69, Tryz.ntmps69
    go_wp2_with fail
    go_returns
    exact ⟨rfl, Ext.refl _⟩
  · rw [if_neg h0]
    go_enter Tryz.func69, Tryz.ntmps69
    go_wp2_with fail
    go_returns
    exact ⟨rfl, Ext.refl _⟩
set_option maxHeartbeats 2000000 in
set_option maxRecDepth 100000 in
theorem beginning_c (h x : Int) (hh : hlen h = true) (hx : -4503599627370496 ≤ x ∧ x ≤ 4503599627370496) (w : World) : Calls Tryz.prog 87 #[.int .i64 h, .int .i64 x] w fun e w' => e = .returned (.int .i64 (hbeg h x)) ∧ Ext w w' := by
  obtain ⟨h1, h2⟩ := hlen_iff.1 hh
  obtain ⟨x1, x2⟩ := hx
  have hin := hcnt_in (h := h) (x := x) h1
  by_cases hp : 0 < x
  · have hm : max x 0 = x := by omega
    have hu := hcnt_up h1 hp
    have hf := fun w => floor_c x h (by omega) (by omega) w
    unfold flQ flR flE at hf
    rw [if_neg (by omega), if_neg (by omega), if_neg (by omega)] at hf
    have q1 : 0 ≤ x / h := Int.ediv_nonneg (by omega) (by omega)
    have q2 : x / h ≤ x := Int.ediv_le_self _ (by omega)
    have q3 := Int.emod_nonneg x (b := h) (by omega)
    obtain ⟨P, hP⟩ : ∃ P, hcnt h x * h = P := ⟨_, rfl⟩
    have hp1 := hin.2.1
    have hp2 := hin.2.2.1 hp
    rw [hP] at hp1 hp2
    unfold hbeg
    rw [hP]
    replace hf := hide hf
    clear hin
    by_cases hr : 0 < x % h
    · rw [if_pos hr] at hu
      rw [hu] at hP
      generalize x / h = Q at *
      generalize x % h = R at *
      clear hu
      by_cases hF : P < 1125899906842624
      · rw [if_pos hF]
        go_enter Tryz.func87, Tryz.ntmps87
        go_wp2_with (go_at_call 135; (with_reducible refine seq_gw (hf.out _) ?_); intro g)
        all_goals (go_returns; exact ⟨by first | rfl | (simp; done) | (simp; omega), g.grown⟩)
      · rw [if_neg hF]
        go_enter Tryz.func87, Tryz.ntmps87
        go_wp2_with (go_at_call 135; (with_reducible refine seq_gw (hf.out _) ?_); intro g)
        all_goals (go_returns; exact ⟨by first | rfl | (simp; done) | (simp; omega), g.grown⟩)
    · rw [if_neg hr, Int.add_zero] at hu
      rw [hu] at hP
      generalize x / h = Q at *
      generalize x % h = R at *
      clear hu
      by_cases hF : P < 1125899906842624
      · rw [if_pos hF]
        go_enter Tryz.func87, Tryz.ntmps87
        go_wp2_with (go_at_call 135; (with_reducible refine seq_gw (hf.out _) ?_); intro g)
        all_goals (go_returns; exact ⟨by first | rfl | (simp; done) | (simp; omega), g.grown⟩)
      · rw [if_neg hF]
        go_enter Tryz.func87, Tryz.ntmps87
        go_wp2_with (go_at_call 135; (with_reducible refine seq_gw (hf.out _) ?_); intro g)
        all_goals (go_returns; exact ⟨by first | rfl | (simp; done) | (simp; omega), g.grown⟩)
  · have hm : max x 0 = 0 := by omega
    have hz : hbeg h x = 0 := by unfold hbeg; rw [hin.2.2.2 (by omega)]; simp
    have hf := fun w => floor_c 0 h (by omega) (by omega) w
    unfold flQ flR flE at hf
    rw [if_neg (by omega), if_neg (by omega), if_neg (by omega), Int.zero_ediv, Int.zero_emod] at hf
    rw [hz]
    replace hf := hide hf
    clear hin hz hm
    rcases Int.lt_or_eq_of_le (show x ≤ 0 by omega) with hx0 | rfl
    all_goals
      go_enter Tryz.func87, Tryz.ntmps87
      go_wp2_with (go_at_call 135; (with_reducible refine seq_gw (hf.out _) ?_); intro g)
      all_goals (go_returns; exact ⟨by first | rfl | (simp; done) | (simp; omega), g.grown⟩)
end Go.Proofs.YtljkneajdndgjaaGreat
